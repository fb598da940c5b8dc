import Derived.Test.YtbgchjjaaelkbaaSpN
import Derived.Test.YtbgchjjaaelkbaaBio
import Derived.Test.YtbgchjjaaelkbaaBusy
import Derived.Test.YtbgchjjaaelkbaaRows
import Derived.Test.YtbgchjjaaelkbaaLib
import Derived.ProofKit
import Derived.OpenShut
import Derived.ShutString
import Derived.ChangeOld
import Derived.Deep.Slices
import Derived.ChangeSame
import Derived.Carry
import Derived.Test.YtbgchjjaaelkbaaDraw
import Derived.Test.YtbgchjjaaelkbaaDraw3
import Derived.Test.YtbgchjjaaelkbaaIm2
import Derived.Test.YtbgchjjaaelkbaaP2
import Derived.Test.YtbgchjjaaelkbaaRow
import Derived.Test.YtbgchjjaaelkbaaTail
import Derived.BigQuiet
import Derived.ChangeAlike
import Derived.RegionTactic
import Derived.Laws.CopyOwn
import Derived.Outline
import Derived.Laws.EntriesVeiled
import Derived.Test.YtbgchjjaaelkbaaNames
import Derived.Test.YtbgchjjaaelkbaaSp1
import Derived.Test.YtbgchjjaaelkbaaSource
import Derived.Test.YtbgchjjaaelkbaaNamesIn
import Derived.Test.YtbgchjjaaelkbaaApp
import Derived.Test.YtbgchjjaaelkbaaHold
import Derived.ChangeKeysEq
import Derived.Test.YtbgchjjaaelkbaaAhd
import Derived.Test.YtbgchjjaaelkbaaColl
import Derived.Test.YtbgchjjaaelkbaaCnt
import Derived.Test.YtbgchjjaaelkbaaPm
import Derived.Test.YtbgchjjaaelkbaaReaders
import Derived.Test.YtbgchjjaaelkbaaHar
import Derived.LaidEqlPtr
namespace Go.PM
open Go.RowKit
theorem rows_ne {w : World} {base base' : Nat} {e e' : TypeId} {size size' n n' : Nat} {v v' : Value} {cs cs' : List Value} (h : w.ownsRow base e size v n cs) (h' : w.ownsRow base' e' size' v' n' cs') (hne : e ≠ e') : v.ownBlock ≠ v'.ownBlock ∨ v'.ownBlock = none := by
  rcases h'.2 with ⟨rfl, _⟩ | ⟨g, cap, cur, rfl, _, hg, _⟩
  · exact .inr rfl
  · refine .inl fun e1 => ?_
    rcases h.2 with ⟨rfl, _⟩ | ⟨g2, cap2, cur2, rfl, _, hg2, _⟩
    · cases e1
    · cases e1
      rw [hg] at hg2
      cases hg2
      exact hne rfl
theorem redM_spec {ws : List Mv} (h : Wt ws) {i : Nat} (hi : i < ws.length) : redM ws[i] (ws.eraseIdx i) = if isP ws[i].2 = true then instM ws[i].2 ws[i].1 (ws.eraseIdx i) else ws.eraseIdx i := by
  have hm := List.getElem_mem hi
  unfold redM
  rcases h.from_ _ hm with h1 | h1 | h1
  · rw [if_neg (by rw [(isP_cases h1).1]; decide), if_pos h1]
  · rw [if_pos h1, if_neg (by rw [(isD_cases h1).1]; decide)]
  · rw [h1, if_neg (by rw [spT_cases.2]; decide), if_neg (by rw [spT_cases.1]; decide)]
    refine instM_none ?_
    have h2 := rdN_erase ws i hi spT
    rw [if_pos h1] at h2
    have := h.one
    omega
theorem redM_spec0 {ws : List Mv} (h : Wt ws) (h0 : 0 < ws.length) : redM (spT, ws[0].1) ws = instM ws[0].1 spT ws := by
  unfold redM
  rw [if_neg (by show ¬ isD ws[0].1 = true; rw [(isP_cases (h.to_ _ (List.getElem_mem h0))).1]; decide)]
/-- what the ordering holds at the head of a round: k steps are enough for what waits -/
def OrdS (w : World) (e f : TypeId) (xs : List Mv) (k : Nat) (ov wv : Value) (A : World) : Prop :=
  ∃ (pre ws : List Mv), pre ++ ordF k ws = ordF 19 xs ∧ Wt ws ∧ muW ws ≤ k ∧ ws.length ≤ 9 ∧ A.ownsRow w.heap.size e 2 wv ws.length (mcells ws) ∧ A.ownsRow w.heap.size f 3 ov pre.length (scells (stL pre)) ∧ Below w.heap.size w A
end Go.PM
namespace Go.Proofs.Ytbgchjjaaelkbaa
open Go.RowKit Go.PM
attribute [local go_sem] Oper.semAt_some

/-- append of one step -/
theorem app_stp {ops : Array Oper} {rest : List Oper} {o : Oper} {a : Act} {Q : Exit → Act → World → Prop} {w : World} (hgd : o.guard = none) (s x : Operand)
    (ho : o.op = .call { callee := .builtin .append, args := #[s, x], argTypes := #[51, 51] })
    (base : Nat) (v : Value) (ys : List Mv) (m : Mv) (ad : Addr) (c : Nat) (hs : a.eval s = v) (hx : a.eval x = .slice (some ad) 1 c)
    (hown : w.ownsRow base 53 3 v ys.length (scells (stL ys))) (hnew : ∀ j u, [Value.int .i64 0, Value.string m.1, Value.string m.2][j]? = some u → w.cell? (ad.add j) = some u)
    (hlen : ys.length ≤ 1048576) (hbase : base ≤ w.heap.size)
    (h : ∀ v' w', w'.ownsRow base 53 3 v' (ys ++ [m]).length (scells (stL (ys ++ [m]))) → w.grownBy w' v.ownBlock → wpList Try.prog ops Q rest (a.put o.dst v') w') : wpList Try.prog ops Q (o :: rest) a w := by
  obtain ⟨i0, hi0, hz0, hz1, hz2⟩ := info_parts infoStp
  refine wpList_append_own w hgd s x _ ho base 53 i0 _ 3 40 Try.underlying51 hi0 hz0 hz1 hz2 rfl (by omega) v ys.length (scells (stL ys)) hs hown ad 1 c [Value.int .i64 0, Value.string m.1, Value.string m.2] hx rfl hnew
    (by intro u hu; simp at hu; rcases hu with rfl | rfl | rfl <;> rfl) (by simp only [maxLen]; omega) (by omega) hbase ?_
  intro v' w' h2 h3 _
  refine h v' w' ?_ h3
  have hcs : scells (stL ys) ++ [Value.int .i64 0, Value.string m.1, Value.string m.2] = scells (stL (ys ++ [m])) := by unfold stL; rw [List.map_append, scells_append]; simp [scells, stpM]
  rw [← hcs, List.length_append]
  simpa using h2

set_option maxRecDepth 100000 in
set_option maxHeartbeats 6400000 in
theorem l5Order_c (xs : List Mv) (h1 : MV xs) (v : Value) (w : World) (hx : RdM w v xs) :
    Calls Try.prog 110 #[v] w fun e w' => ∃ v', e = .returned v' ∧ w'.ownsRow w.heap.size 53 3 v' (ordF 19 (busyF xs 9)).length (scells (stL (ordF 19 (busyF xs 9)))) ∧ Below w.heap.size w w' := by
  have hW := busyF_Wt h1
  have hl9 := busyF_len xs 9
  have HNX := Lib.hid (fun ws wv A hx hl hn => l5Next_c ws wv A hx (by omega : ws.length ≤ 1048575) hn)
  have HIN := Lib.hid (fun ws wv a c A hx hl => l5Instead_c ws wv a c A hx (by omega : ws.length ≤ 1048575))
  have hE0 := World.ownsRow_lit (e := 53) (base := w.heap.size) (size := 3) w #[] 0 (Nat.le_refl _) (Nat.zero_le _) rfl
  have hb0 : Below w.heap.size w (w.alloc (.cells #[] 53)) := (Below.refl _ _).alloc (Nat.le_refl _) _
  have HB := Lib.hid (l1Busy_c xs v _ (hx.below hb0))
  go_enter Try.func110, Try.ntmps110
  go_wp2_with (go_at_call 75; refine HB.out.mono ?_; rintro e w1 ⟨v1, rfl, ho1, hb1⟩; refine held ?_)
  unfold Held
  have hb01 := hb0.trans (hb1.mono (by simp))
  have hR0 : OrdS w 33 53 (busyF xs 9) 19 (.slice (some ⟨w.heap.size, 0, none⟩) 0 0) v1 w1 :=
    ⟨[], busyF xs 9, rfl, hW, by have := hl9; unfold muW; split <;> omega, hl9, own_more ho1 hb0.size, own_keep hE0 hb1, hb01⟩
  clear hE0 hb0 HB ho1 hb1 hb01 hx hl9 hW h1
  generalize hbe : busyF xs 9 = bs at *
  have HBE := Lib.hid hbe
  clear hbe
  go_wp2
  go_loopw [3, 4, 5, 6, 7] (fun ov wv _ _ _ wr => ∃ k, OrdS w 33 53 bs k ov wv wr) (fun ov wv _ _ _ wr => leastK (fun k => OrdS w 33 53 bs k ov wv wr))
  case atStart => exact ⟨19, hR0⟩
  case round =>
    obtain ⟨hru, _⟩ := leastK_spec hrel
    generalize hkk : leastK (fun k => OrdS w 33 53 bs k u3 u4 wr) = kk at *
    have HKK := Lib.hid hkk
    clear hrel hkk hR0
    obtain ⟨pre, ws, hpr, hwt, hmu, h9, ho, hov, hb⟩ := hru
    have hbs := hb.size
    have hrd : RdM wr u4 ws := Rd.of_own ho
    obtain ⟨A, cap, rfl, hn1, hc1, hcell⟩ := hrd.open
    have hpl : pre.length ≤ 100 := by
      have h1 := congrArg List.length hpr
      rw [List.length_append] at h1
      have h2 := ordF_len 19 bs
      omega
    by_cases h0 : 0 < ws.length
    · obtain ⟨k, rfl⟩ : ∃ k', kk = k' + 1 := ⟨kk - 1, by unfold muW at hmu; omega⟩
      obtain ⟨b, off, rfl, hbl, d1', d2'⟩ := hcell 0 h0
      have hblo := (own_lt ho)
      have hcs : ∀ q (hq : q < ws.length), wr.cell? ⟨b, off + q * 2, none⟩ = some (.string ws[q].1) ∧ wr.cell? ⟨b, off + q * 2 + 1, none⟩ = some (.string ws[q].2) := fun q hq => by
        obtain ⟨b', off', e, _, q1, q2⟩ := hcell q hq
        cases e; exact ⟨q1, q2⟩
      have d1 : wr.cell? ⟨b, off, none⟩ = some (.string ws[0].1) := by simpa using d1'
      have i00 : (0 : Int) < (ws.length : Int) := by omega
      have hnx := HNX.out ws _ wr hrd (by omega) hwt.ne
      clear d1' d2' hcell
      rcases aheadZ_lt ws with hz | ⟨i, hi, hz, ha⟩
      · have ha := aheadI_of_neg hz
        have hof := ordF_none (n := k) h0 ha
        have hrn := hwt.none_ h0 ha
        have hrs := redM_spec0 hwt h0
        have hmn := muW_none hwt h0 ha
        rw [hrs] at hof hrn hmn
        have hin := HIN.out ws (.slice (some ⟨b, off, none⟩) ws.length cap) ws[0].1 spT
        have hnw := three_new
        have HNEW : Hid ((pre ++ [(spT, ws[0].1)]) ++ ordF k (instM ws[0].1 spT ws) = ordF 19 bs ∧ Wt (instM ws[0].1 spT ws) ∧ muW (instM ws[0].1 spT ws) ≤ k ∧ (instM ws[0].1 spT ws).length ≤ 9) :=
          ⟨by rw [← hpr, hof]; simp, hrn.1, by omega, by rw [instM_len]; exact h9⟩
        have HSP : Hid (spT = ⟨#[116]⟩) := rfl
        rw [hz] at hnx
        clear hz hof hrn hrs hmn hcs ha hpr
        generalize instM ws[0].1 spT ws = ws2 at *
        generalize ws[0].1 = x1 at *
        generalize spT = sp at *
        have hsp := HSP.out
        subst hsp
        go_wp2_with (go_at_call 97; refine hnx.mono ?_; rintro e w1' ⟨rfl, hb1⟩; refine held ?_)
        unfold Held
        have e1 := (hb1.cell (p := ⟨b, off, none⟩) hbl).trans d1
        have hov1 := own_keep hov hb1
        have ho1 := own_keep ho hb1
        have hB1 := hb.trans (hb1.mono hbs)
        have hs1 := hB1.size
        clear d1 hov ho hrd hb hb1
        go_wp2_with (at_builtin; refine held ?_)
        unfold Held
        refine app_stp rfl (.tmp 22) (.tmp 26) rfl w.heap.size _ pre (⟨#[116]⟩, x1) ⟨w1'.heap.size, 0, none⟩ 1 (by rfl) (by rfl) (own_keep hov1 ((Below.refl _ _).alloc (Nat.le_refl _) _)) (three_new w1' _ _ _ _) (by omega) (by simp; omega) ?_
        intro v3 w3 hov3 hg3
        have hbx : Below w.heap.size w (w1'.alloc (.cells #[.int .i64 0, .string ⟨#[116]⟩, .string x1] 53)) := hB1.alloc hs1 _
        have hB3 := hbx.trans (below_grown hg3 (by simp; omega) (own_block_ge hov1))
        have hs3 := hB3.size
        have ho3 := own_grown (own_keep ho1 ((Below.refl _ _).alloc (Nat.le_refl _) (.cells #[.int .i64 0, .string ⟨#[116]⟩, .string x1] 53))) hg3 (rows_ne ho1 hov1 (by decide))
        have hrd3 : RdM w3 _ ws := Rd.of_own ho3
        clear hg3 hbx hB1 hov1 ho1 e1
        go_wp2_with fail
        refine (hin w3 hrd3 (by omega)).mono ?_
        rintro e w4 ⟨v4, rfl, ho4, hb4⟩
        have hOR : OrdS w 33 53 bs k v3 v4 w4 := ⟨_, ws2, HNEW.out.1, HNEW.out.2.1, HNEW.out.2.2.1, HNEW.out.2.2.2, own_more ho4 hs3, own_keep hov3 hb4, hB3.trans (hb4.mono hs3)⟩
        clear ho4 hov3 hb4 ho3 hrd3
        go_wp2
        go_roundw
        case rel => exact ⟨k, hOR⟩
        case measure =>
          rw [HKK.out]
          have := (leastK_spec (P := fun k => OrdS w 33 53 bs k v3 v4 w4) ⟨k, hOR⟩).2 _ hOR
          omega
      · have hof := ordF_some (n := k) hi ha
        have hrn := hwt.some_ hi (aheadI_some ha).2
        have hrs := redM_spec hwt hi
        have hmn := muW_some hi ws[i]
        have hlr : (redM ws[i] (ws.eraseIdx i)).length ≤ 9 := by rw [redM_len, List.length_eraseIdx_of_lt hi]; omega
        have hin := fun v => HIN.out (ws.eraseIdx i) v ws[i].2 ws[i].1
        have hle9 : (ws.eraseIdx i).length ≤ 9 := by rw [List.length_eraseIdx_of_lt hi]; omega
        have HNEW : Hid ((pre ++ [ws[i]]) ++ ordF k (redM ws[i] (ws.eraseIdx i)) = ordF 19 bs ∧ Wt (redM ws[i] (ws.eraseIdx i)) ∧ muW (redM ws[i] (ws.eraseIdx i)) ≤ k ∧ (redM ws[i] (ws.eraseIdx i)).length ≤ 9) :=
          ⟨by rw [← hpr, hof]; simp, hrn, by omega, hlr⟩
        have HRS := Lib.hid hrs
        have hci := hcs i hi
        have i0 : (0 : Int) ≤ (i : Int) := by omega
        have i1 : (i : Int) < (ws.length : Int) := by omega
        rw [hz] at hnx
        clear hz hof hrn hrs hmn hcs ha hpr hlr d1
        generalize redM ws[i] (ws.eraseIdx i) = ws2 at *
        rw [show ws[i] = (ws[i].1, ws[i].2) from rfl] at HNEW
        generalize ws[i].1 = x1 at *
        generalize ws[i].2 = x2 at *
        go_wp2_with (go_at_call 97; refine hnx.mono ?_; rintro e w1' ⟨rfl, hb1⟩; refine held ?_)
        unfold Held
        have e1 := (hb1.cell (p := ⟨b, off + i * 2, none⟩) hbl).trans hci.1
        have e2 := (hb1.cell (p := ⟨b, off + i * 2 + 1, none⟩) hbl).trans hci.2
        have hov1 := own_keep hov hb1
        have ho1 := own_keep ho hb1
        have hB1 := hb.trans (hb1.mono hbs)
        have hs1 := hB1.size
        clear hov ho hrd hb hb1 hci
        have hN1 := At.new w1' 33 #[.string x1, .string x2]
        have hax : Below w1'.heap.size w1' (w1'.alloc (.cells #[.string x1, .string x2] 33)) := (Below.refl _ _).alloc (Nat.le_refl _) _
        have hov1b := own_keep hov1 hax
        have ho1b := own_keep ho1 hax
        have hnw := three_new (w1'.alloc (.cells #[.string x1, .string x2] 33)) (.int .i64 0) (.string x1) (.string x2) 53
        rw [World.size_alloc] at hnw
        go_wp2_with (at_builtin; refine held ?_)
        unfold Held
        refine app_stp rfl (.tmp 35) (.tmp 38) rfl w.heap.size _ pre (x1, x2) ⟨w1'.heap.size + 1, 0, none⟩ 1 (by rfl) (by rfl) (own_keep hov1b ((Below.refl _ _).alloc (Nat.le_refl _) _)) hnw (by omega) (by simp; omega) ?_
        intro v3 wx hov3 hg3
        have hbx : Below w.heap.size w ((w1'.alloc (.cells #[.string x1, .string x2] 33)).alloc (.cells #[.int .i64 0, .string x1, .string x2] 53)) := (hB1.alloc hs1 _).alloc (by simp; omega) _
        have hB3 := hbx.trans (below_grown hg3 (by simp; omega) (own_block_ge hov1))
        have hs3 := hB3.size
        have ho3 := own_grown (own_keep ho1b ((Below.refl _ _).alloc (Nat.le_refl _) (.cells #[.int .i64 0, .string x1, .string x2] 53))) hg3 (rows_ne ho1b hov1b (by decide))
        have hN3 := (hN1.alloc (.cells #[.int .i64 0, .string x1, .string x2] 53)).grown hg3 (own_box_ne hov1b hN1 (by decide))
        have hrdx : RdM wx (.slice (some ⟨b, off, none⟩) ws.length cap) ws := Rd.of_own ho3
        have hblx : b < wx.heap.size := (own_blk ho3 rfl).1
        have hsrc := Rd.cellsFrom hrdx
        clear hg3 hbx hB1 hov1 ho1 e1 e2 hov1b ho1b hax hN1 hnw hnx
        have hcp : ∀ (W : World), Below wx.heap.size wx W → ∀ (j : Nat) (u : Value), (mcells (ws.take i))[j]? = some u → W.cell? ((⟨b, off, none⟩ : Addr).add j) = some u := fun W hW j u h => by
          rw [add_off]
          refine (hW.cell hblx).trans (hsrc j u ?_)
          rw [← mcells_take, List.getElem?_take] at h
          split at h
          · exact h
          · cases h
        have hcq : ∀ (W : World), Below wx.heap.size wx W → ∀ (j : Nat) (u : Value), (mcells (ws.drop (i + 1)))[j]? = some u → W.cell? ((⟨b, off + (i + 1) * 2, none⟩ : Addr).add j) = some u := fun W hW j u h => by
          rw [add_off, Nat.add_assoc]
          refine (hW.cell hblx).trans (hsrc _ u ?_)
          rw [← mcells_drop, List.getElem?_drop] at h
          exact h
        have hltk : (ws.take i).length = i := by rw [List.length_take]; omega
        have hldk : (ws.drop (i + 1)).length = ws.length - (i + 1) := by rw [List.length_drop]
        have hsum : (ws.take i).length + (ws.drop (i + 1)).length ≤ 1048576 := by omega
        have i2 : (i : Int) + 1 ≤ (ws.length : Int) := by omega
        have i3 : (i : Int) ≤ (ws.length : Int) := by omega
        have HER : Hid (ws.take i ++ ws.drop (i + 1) = ws.eraseIdx i) := by show _ = _; rw [List.eraseIdx_eq_take_drop_succ]
        have HCP := Lib.hid hcp
        have HCQ := Lib.hid hcq
        have n1 : i ≤ cap := by omega
        have n2 : i + 1 ≤ ws.length := by omega
        have n3 : i + 1 ≤ cap := by omega
        have n4 : IntKind.i64.wrap ((i : Int) + 1) = (i : Int) + 1 := IntWalk.i64_in _ ⟨by omega, by omega⟩
        have n5 : ((i : Int) + 1).toNat = i + 1 := by omega
        have n6 : (0 : Int) ≤ (i : Int) + 1 := by omega
        clear hcp hcq hsrc
        generalize ws.take i = p1 at *
        generalize ws.drop (i + 1) = p2 at *
        by_cases hcap : cap = i + 1
        · subst hcap
          have hp20 : p2.length = 0 := by omega
          have n7 : (i : Int) ≤ (i : Int) + 1 := by omega
          have HCZ : Hid (∀ (W : World) (j : Nat) (u : Value), (mcells p2)[j]? = some u → W.cell? ((⟨b, off, none⟩ : Addr).add j) = some u) := fun W j u h => by
            have : p2 = [] := List.length_eq_zero_iff.1 (by omega)
            rw [this] at h; simp [mcells] at h
          go_wp2
          go_region_law (first
                    | (refine step_appM rfl (.tmp 40) (.tmp 43) rfl wx.heap.size (.slice (some ⟨wx.heap.size, 0, none⟩) 0 0) [] p1 ⟨b, off, none⟩ (i + 1) (by rfl) (by rw [hltk]; rfl) (own_lit1 _ _ _ _ rfl (Nat.le_refl _)) (HCP.out _ (by (repeat' (first | (with_reducible exact Below.refl _ _) | (with_reducible assumption) | (with_reducible refine Below.alloc ?_ ?_ _) | (with_reducible refine Below.drew ?_) | (with_reducible refine Below.setCell ?_ ?_ _) | (with_reducible exact Nat.le_refl _) | omega | ((repeat (first | rewrite [World.size_alloc] | rewrite [World.size_setCell] | rewrite [World.size_drew])); omega) | (simp; omega) | (simp; done))))) (by simp; omega) (by simp) ?_; intro vq wq ho1 hg1; have hb1' := Below.trans (show Below wx.heap.size wx ((wx.alloc (.cells #[] 33)).drew) by (repeat' (first | (with_reducible exact Below.refl _ _) | (with_reducible assumption) | (with_reducible refine Below.alloc ?_ ?_ _) | (with_reducible refine Below.drew ?_) | (with_reducible refine Below.setCell ?_ ?_ _) | (with_reducible exact Nat.le_refl _) | omega | ((repeat (first | rewrite [World.size_alloc] | rewrite [World.size_setCell] | rewrite [World.size_drew])); omega) | (simp; omega) | (simp; done)))) (below_grown hg1 (by simp) (fun g e => by have e' : some wx.heap.size = some g := e; cases e'; omega)))
                    | (refine step_appM rfl (.tmp 44) (.tmp 48) rfl wx.heap.size _ _ p2 ⟨b, off, none⟩ 0 (by rfl) (by rw [hp20]; rfl) ho1.out (HCZ.out _) (by simpa using hsum) (by have := hg1.size; simp at this; omega) ?_; intro v2 w2 ho2 hg2))
          have hz1 := hg1.size
          have hz2 := hg2.size
          simp only [World.size_alloc, World.size_drew] at hz1
          have hge1 := own_block_ge ho1.out
          have hb2 : Below wx.heap.size wx w2 := hb1'.trans (below_grown hg2 (by omega) (fun g e => by have := hge1 g e; omega))
          have ho2' : w2.ownsRow wx.heap.size 33 2 v2 (ws.eraseIdx i).length (mcells (ws.eraseIdx i)) := by
            have := ho2.out
            rw [List.nil_append, HER.out] at this
            exact this
          have HO2 := Lib.hid ho2'
          clear hg1 hg2 ho1 ho2 hb1' ho2' hge1 hz1 hz2 HCP HCQ HER
          
          have q1 := hN3.keep hb2
          have q11 : w2.cell? ⟨w1'.heap.size, 0, none⟩ = some (.string x1) := q1.cell 0
          have q12 : w2.cell? ⟨w1'.heap.size, 1, none⟩ = some (.string x2) := q1.cell 1
          have hov4 := own_keep hov3 hb2
          have hB4 := hB3.trans (hb2.mono hs3)
          have hs4 := hB4.size
          have hs5 := hb2.size
          clear q1 hN3 hov3 hrdx ho3 hB3 hb2
          rcases Bool.eq_false_or_eq_true (isP x2) with hp | hp
          · have hr := HRS.out
            rw [if_pos hp] at hr
            have hrd5 : RdM w2 v2 (ws.eraseIdx i) := Rd.of_own HO2.out
            have HI := Lib.hid (hin v2 w2 hrd5 (by omega))
            rw [← hr] at HI
            clear hr hrd5 hin
            go_wp2_with (first | (go_at_call 76; refine (l1Place_c _ _).mono ?_; rintro e w' ⟨rfl, rfl⟩) | (go_at_call 95; refine HI.out.mono ?_; rintro e w6 ⟨v6, rfl, ho6, hb6⟩; refine held ?_))
            unfold Held
            have hOR : OrdS w 33 53 bs k v3 v6 w6 := ⟨_, ws2, HNEW.out.1, HNEW.out.2.1, HNEW.out.2.2.1, HNEW.out.2.2.2, own_more ho6 hs4, own_keep hov4 hb6, hB4.trans (hb6.mono hs4)⟩
            clear ho6 hov4 hb6 hB4
            go_wp2
            go_roundw
            case rel => exact ⟨k, hOR⟩
            case measure =>
              rw [HKK.out]
              have := (leastK_spec (P := fun k => OrdS w 33 53 bs k v3 v6 w6) ⟨k, hOR⟩).2 _ hOR
              omega
          · have hr := HRS.out
            rw [if_neg (by rw [hp]; decide)] at hr
            have ho7 := HO2.out
            rw [← hr] at ho7
            have hOR : OrdS w 33 53 bs k v3 v2 w2 := ⟨_, ws2, HNEW.out.1, HNEW.out.2.1, HNEW.out.2.2.1, HNEW.out.2.2.2, own_more ho7 (by omega), hov4, hB4⟩
            clear hr ho7 hov4 hB4 hin
            go_wp2_with (go_at_call 76; refine (l1Place_c _ _).mono ?_; rintro e w' ⟨rfl, rfl⟩)
            go_roundw
            case rel => exact ⟨k, hOR⟩
            case measure =>
              rw [HKK.out]
              have := (leastK_spec (P := fun k => OrdS w 33 53 bs k v3 v2 w2) ⟨k, hOR⟩).2 _ hOR
              omega
        · go_wp2
          go_region_law (first
                    | (refine step_appM rfl (.tmp 40) (.tmp 43) rfl wx.heap.size (.slice (some ⟨wx.heap.size, 0, none⟩) 0 0) [] p1 ⟨b, off, none⟩ cap (by rfl) (by rw [hltk]; rfl) (own_lit1 _ _ _ _ rfl (Nat.le_refl _)) (HCP.out _ (by (repeat' (first | (with_reducible exact Below.refl _ _) | (with_reducible assumption) | (with_reducible refine Below.alloc ?_ ?_ _) | (with_reducible refine Below.drew ?_) | (with_reducible refine Below.setCell ?_ ?_ _) | (with_reducible exact Nat.le_refl _) | omega | ((repeat (first | rewrite [World.size_alloc] | rewrite [World.size_setCell] | rewrite [World.size_drew])); omega) | (simp; omega) | (simp; done))))) (by simp; omega) (by simp) ?_; intro vq wq ho1 hg1; have hb1' := Below.trans (show Below wx.heap.size wx ((wx.alloc (.cells #[] 33)).drew) by (repeat' (first | (with_reducible exact Below.refl _ _) | (with_reducible assumption) | (with_reducible refine Below.alloc ?_ ?_ _) | (with_reducible refine Below.drew ?_) | (with_reducible refine Below.setCell ?_ ?_ _) | (with_reducible exact Nat.le_refl _) | omega | ((repeat (first | rewrite [World.size_alloc] | rewrite [World.size_setCell] | rewrite [World.size_drew])); omega) | (simp; omega) | (simp; done)))) (below_grown hg1 (by simp) (fun g e => by have e' : some wx.heap.size = some g := e; cases e'; omega)))
                    | (refine step_appM rfl (.tmp 44) (.tmp 48) rfl wx.heap.size _ _ p2 ⟨b, off + (i + 1) * 2, none⟩ (cap - (i + 1)) (by rfl) (by rw [hldk]; rfl) ho1.out (HCQ.out _ hb1') (by simpa using hsum) (by have := hg1.size; simp at this; omega) ?_; intro v2 w2 ho2 hg2))
          have hz1 := hg1.size
          have hz2 := hg2.size
          simp only [World.size_alloc, World.size_drew] at hz1
          have hge1 := own_block_ge ho1.out
          have hb2 : Below wx.heap.size wx w2 := hb1'.trans (below_grown hg2 (by omega) (fun g e => by have := hge1 g e; omega))
          have ho2' : w2.ownsRow wx.heap.size 33 2 v2 (ws.eraseIdx i).length (mcells (ws.eraseIdx i)) := by
            have := ho2.out
            rw [List.nil_append, HER.out] at this
            exact this
          have HO2 := Lib.hid ho2'
          clear hg1 hg2 ho1 ho2 hb1' ho2' hge1 hz1 hz2 HCP HCQ HER
          
          have q1 := hN3.keep hb2
          have q11 : w2.cell? ⟨w1'.heap.size, 0, none⟩ = some (.string x1) := q1.cell 0
          have q12 : w2.cell? ⟨w1'.heap.size, 1, none⟩ = some (.string x2) := q1.cell 1
          have hov4 := own_keep hov3 hb2
          have hB4 := hB3.trans (hb2.mono hs3)
          have hs4 := hB4.size
          have hs5 := hb2.size
          clear q1 hN3 hov3 hrdx ho3 hB3 hb2
          rcases Bool.eq_false_or_eq_true (isP x2) with hp | hp
          · have hr := HRS.out
            rw [if_pos hp] at hr
            have hrd5 : RdM w2 v2 (ws.eraseIdx i) := Rd.of_own HO2.out
            have HI := Lib.hid (hin v2 w2 hrd5 (by omega))
            rw [← hr] at HI
            clear hr hrd5 hin
            go_wp2_with (first | (go_at_call 76; refine (l1Place_c _ _).mono ?_; rintro e w' ⟨rfl, rfl⟩) | (go_at_call 95; refine HI.out.mono ?_; rintro e w6 ⟨v6, rfl, ho6, hb6⟩; refine held ?_))
            unfold Held
            have hOR : OrdS w 33 53 bs k v3 v6 w6 := ⟨_, ws2, HNEW.out.1, HNEW.out.2.1, HNEW.out.2.2.1, HNEW.out.2.2.2, own_more ho6 hs4, own_keep hov4 hb6, hB4.trans (hb6.mono hs4)⟩
            clear ho6 hov4 hb6 hB4
            go_wp2
            go_roundw
            case rel => exact ⟨k, hOR⟩
            case measure =>
              rw [HKK.out]
              have := (leastK_spec (P := fun k => OrdS w 33 53 bs k v3 v6 w6) ⟨k, hOR⟩).2 _ hOR
              omega
          · have hr := HRS.out
            rw [if_neg (by rw [hp]; decide)] at hr
            have ho7 := HO2.out
            rw [← hr] at ho7
            have hOR : OrdS w 33 53 bs k v3 v2 w2 := ⟨_, ws2, HNEW.out.1, HNEW.out.2.1, HNEW.out.2.2.1, HNEW.out.2.2.2, own_more ho7 (by omega), hov4, hB4⟩
            clear hr ho7 hov4 hB4 hin
            go_wp2_with (go_at_call 76; refine (l1Place_c _ _).mono ?_; rintro e w' ⟨rfl, rfl⟩)
            go_roundw
            case rel => exact ⟨k, hOR⟩
            case measure =>
              rw [HKK.out]
              have := (leastK_spec (P := fun k => OrdS w 33 53 bs k v3 v2 w2) ⟨k, hOR⟩).2 _ hOR
              omega

    · have : ws = [] := List.length_eq_zero_iff.1 (by omega)
      subst this
      rw [ordF_nil, List.append_nil] at hpr
      rw [hpr] at hov
      go_wp2
      go_ret
      exact ⟨_, rfl, by rw [HBE.out]; exact hov, hb⟩
set_option maxRecDepth 100000 in
set_option maxHeartbeats 1600000 in
theorem spOrderMoves_c (xs : List Mv) (v : Value) (w : World) (hx : RdM w v xs) (hz : ∀ m ∈ xs, m.1.size ≤ 9223372036854775807 ∧ m.2.size ≤ 9223372036854775807) (hn' : xs.length ≤ 1048576) :
    Calls Try.prog 52 #[v] w fun e w' => ∃ v', e = .returned (.tuple #[v', .bool (mvalid xs)]) ∧ w'.ownsRow w.heap.size 53 3 v' (ordM xs).length (scells (stL (ordM xs))) ∧ Below w.heap.size w w' := by
  rcases Bool.eq_false_or_eq_true (mvalid xs) with h1 | h1
  · have hO := Lib.hid (show ordM xs = ordF 19 (busyF xs 9) from if_pos h1)
    have hOC := Lib.hid (fun W h => l5Order_c xs (by simpa [mvalid] using h1) v W h)
    have HX := Lib.hid (fun W (hW : Below w.heap.size w W) => hx.below hW)
    go_enter Try.func52, Try.ntmps52
    go_wp2_with fail
    refine (spMovesValid_c xs _ _ hx hz hn').mono ?_
    rintro e w1 ⟨he, hb1⟩
    rw [h1] at he
    subst he
    have hs1 := hb1.size
    go_wp2_with fail
    refine (hOC.out _ (HX.out _ hb1)).mono ?_
    rintro e w2 ⟨v2, rfl, ho2, hb2⟩
    have hB := hb1.trans (hb2.mono hs1)
    have ho3 := own_more ho2 hs1
    rw [← hO.out] at ho3
    clear ho2 hb2
    go_wp2
    go_ret2
    exact ⟨_, by rw [h1]; rfl, ho3, hB⟩
  · have hno : ordM xs = [] := if_neg (by rw [h1]; decide)
    have HNO := Lib.hid hno
    clear hno
    go_enter Try.func52, Try.ntmps52
    go_wp2_with fail
    refine (spMovesValid_c xs _ _ hx hz hn').mono ?_
    rintro e w1 ⟨he, hb1⟩
    rw [h1] at he
    subst he
    have hs1 := hb1.size
    have hE := World.ownsRow_lit (e := 53) (base := w.heap.size) (size := 3) w1 #[] 0 (by omega) (Nat.zero_le _) rfl
    have hB := hb1.alloc hs1 (.cells #[] 53)
    go_wp2
    go_ret2
    exact ⟨_, by rw [h1]; rfl, by rw [HNO.out]; exact hE, hB⟩
theorem spOrderMovesL_c (xs : List Mv) (v : Value) (w : World) (hx : RdM w v xs) (hz : ∀ m ∈ xs, m.1.size ≤ 9223372036854775807 ∧ m.2.size ≤ 9223372036854775807) (hn' : xs.length ≤ 1048576) :
    Calls Try.prog 52 #[v] w fun e w' => ∃ v', e = .returned (.tuple #[v', .bool (mvalid xs)]) ∧ w'.ownsRow w.heap.size 53 3 v' (stL (ordM xs)).length (scells (stL (ordM xs))) ∧ Below w.heap.size w w' := by
  rw [stL_len]; exact spOrderMoves_c xs v w hx hz hn'
end Go.Proofs.Ytbgchjjaaelkbaa
namespace Go.PM
open Go.RowKit
/-- what is taken, and what waits, at the head of a round -/
def TakS (w : World) (e : TypeId) (bs : List Mv) (k : Nat) (ov wv : Value) (A : World) : Prop :=
  ∃ (pre ws : List Mv), pre ++ takF k ws = takF 9 bs ∧ Wt ws ∧ ws.length ≤ k ∧ ws.length ≤ 9 ∧ pre.length + ws.length = bs.length ∧ A.ownsRow w.heap.size e 2 wv ws.length (mcells ws) ∧ A.ownsRow w.heap.size e 2 ov pre.length (mcells pre) ∧ (wv.ownBlock ≠ ov.ownBlock ∨ ov.ownBlock = none) ∧ Below w.heap.size w A
theorem busyF_ne (xs : List Mv) : ∀ m ∈ busyF xs 9, m.1 ≠ m.2 := by
  intro m hm
  have hl : busyF xs 9 = lsF (fun p => srcM xs (nm p)) 9 := rfl
  rw [hl] at hm
  obtain ⟨p, _, hne, e⟩ := lsF_mem hm
  rw [e]; exact fun e => hne e.symm
end Go.PM
namespace Go.Proofs.Ytbgchjjaaelkbaa
open Go.RowKit Go.PM
attribute [local go_sem] Oper.semAt_some

/-- append of one move, and where it lies -/
theorem app_lies {ops : Array Oper} {rest : List Oper} {o : Oper} {a : Act} {Q : Exit → Act → World → Prop} {w : World} (hgd : o.guard = none) (s x : Operand)
    (ho : o.op = .call { callee := .builtin .append, args := #[s, x], argTypes := #[23, 23] })
    (base : Nat) (v : Value) (ys : List Mv) (m : Mv) (ad : Addr) (c : Nat) (hs : a.eval s = v) (hx : a.eval x = .slice (some ad) 1 c)
    (hown : w.ownsRow base 33 2 v ys.length (mcells ys)) (hnew : ∀ j u, [Value.string m.1, Value.string m.2][j]? = some u → w.cell? (ad.add j) = some u)
    (hlen : ys.length ≤ 1048576) (hbase : base ≤ w.heap.size)
    (h : ∀ v' w', w'.ownsRow base 33 2 v' (ys ++ [m]).length (mcells (ys ++ [m])) → w.grownBy w' v.ownBlock → (v'.ownBlock = v.ownBlock ∨ v'.ownBlock = some w.heap.size) → wpList Try.prog ops Q rest (a.put o.dst v') w') : wpList Try.prog ops Q (o :: rest) a w := by
  obtain ⟨i0, hi0, hz0, hz1, hz2⟩ := info_parts infoMv
  refine wpList_append_lies w hgd s x _ ho base 33 i0 _ 2 32 Try.underlying23 hi0 hz0 hz1 hz2 rfl (by omega) v ys.length (mcells ys) hs hown ad 1 c [Value.string m.1, Value.string m.2] hx rfl hnew
    (by intro u hu; simp at hu; rcases hu with rfl | rfl <;> rfl) (by omega) (by simp only [maxLen]; omega) (by omega) hbase _ rfl ?_
  intro g cap w' h2 h3 h4 _
  have hcs : mcells ys ++ [Value.string m.1, Value.string m.2] = mcells (ys ++ [m]) := by rw [mcells_append]; simp [mcells]
  refine h _ w' ?_ h3 ?_
  · rw [← hcs, List.length_append]; exact h2
  · rcases h4 with h4 | h4
    · exact .inl h4.symm
    · right; rw [h4]; rfl

set_option maxRecDepth 100000 in
set_option maxHeartbeats 6400000 in
theorem spWithout_yes (xs : List Mv) (h1 : MV xs) (v : Value) (w : World) (hx : RdM w v xs) (hz : ∀ m ∈ xs, m.1.size ≤ 9223372036854775807 ∧ m.2.size ≤ 9223372036854775807) (hn' : xs.length ≤ 1048576) :
    Calls Try.prog 46 #[v] w fun e w' => ∃ v', e = .returned (.tuple #[v', .bool (wspB xs)]) ∧ w'.ownsRow w.heap.size 33 2 v' (wspM xs).length (mcells (wspM xs)) ∧ Below w.heap.size w w' := by
  have hm1 : mvalid xs = true := by simpa [mvalid] using h1
  have hW := busyF_Wt h1
  have hl9 := busyF_len xs 9
  have HWB : Hid (wspB xs = decide ((takF 9 (busyF xs 9)).length = (busyF xs 9).length)) := by show _ = _; unfold wspB takM; rw [hm1]; rfl
  have HWM : Hid (wspM xs = if wspB xs then takF 9 (busyF xs 9) else []) := rfl
  have HNX := Lib.hid (fun ws wv A hx hl hn => l5Next_c ws wv A hx (by omega : ws.length ≤ 1048575) hn)
  have HMV := Lib.hid (fun W h => spMovesValid_c xs v W h hz hn')
  rw [hm1] at HMV
  have HX := Lib.hid (fun W (hW : Below w.heap.size w W) => hx.below hW)
  have hE0 := World.ownsRow_lit (e := 33) (base := w.heap.size) (size := 2) w #[] 0 (Nat.le_refl _) (Nat.zero_le _) rfl
  have hb0 : Below w.heap.size w (w.alloc (.cells #[] 33)) := (Below.refl _ _).alloc (Nat.le_refl _) _
  have HB := Lib.hid (l1Busy_c xs v _ (hx.below hb0))
  go_enter Try.func46, Try.ntmps46
  go_wp2_with (go_at_call 75; refine HB.out.mono ?_; rintro e w1 ⟨v1, rfl, ho1, hb1⟩; refine held ?_)
  unfold Held
  have hb01 := hb0.trans (hb1.mono (by simp))
  have hR0 : TakS w 33 (busyF xs 9) 9 (.slice (some ⟨w.heap.size, 0, none⟩) 0 0) v1 w1 :=
    ⟨[], busyF xs 9, rfl, hW, hl9, hl9, by simp, own_more ho1 hb0.size, own_keep hE0 hb1, ne_turn (own_ne hE0 ho1 (Nat.le_refl _)), hb01⟩
  have hlv : lenV v1 = (busyF xs 9).length := by obtain ⟨A, c, e, _⟩ := Rd.of_own ho1; rw [e]; rfl
  clear hE0 hb0 HB ho1 hb1 hb01 hx hW h1 hlv
  generalize hbe : busyF xs 9 = bs at *
  clear hbe
  go_wp2
  go_loopw [4, 5, 6] (fun ov wv _ wr => ∃ k, TakS w 33 bs k ov wv wr) (fun _ wv _ _ => lenV wv)
  case atStart => exact ⟨9, hR0⟩
  case round =>
    clear hR0
    obtain ⟨k, pre, ws, hpr, hwt, hk, h9, hps, ho, hov, hap, hb⟩ := hrel
    have hbs := hb.size
    have hrd : RdM wr u5 ws := Rd.of_own ho
    obtain ⟨A, cap, rfl, hn1, hc1, hcell⟩ := hrd.open
    by_cases h0 : 0 < ws.length
    · obtain ⟨k, rfl⟩ : ∃ k', k = k' + 1 := ⟨k - 1, by omega⟩
      have i00 : (0 : Int) < (ws.length : Int) := by omega
      have hnx := HNX.out ws _ wr hrd (by omega) hwt.ne
      rcases aheadZ_lt ws with hz2 | ⟨i, hi, hz2, ha⟩
      · have ha := aheadI_of_neg hz2
        have hF : Hid (wspB xs = false) := by
          show _ = _
          rw [HWB.out, decide_eq_false_iff_not, ← hpr, takF_none ha, List.append_nil]
          omega
        rw [hz2] at hnx
        clear hz2 hcell
        go_wp2_with (go_at_call 97; refine hnx.mono ?_; rintro e w1' ⟨rfl, hb1⟩; refine held ?_)
        unfold Held
        have hB1 := hb.trans (hb1.mono hbs)
        have hs1 := hB1.size
        have hE := World.ownsRow_lit (e := 33) (base := w.heap.size) (size := 2) w1' #[] 0 (by omega) (Nat.zero_le _) rfl
        have hB2 := hB1.alloc hs1 (.cells #[] 33)
        clear hb1 ho hov hrd hb
        go_wp2
        go_ret2
        exact ⟨_, by rw [hF.out]; rfl, by rw [HWM.out, hF.out]; exact hE, hB2⟩
      · have htk := takF_some (n := k) hi ha
        obtain ⟨b, off, rfl, hbl, d1, d2⟩ := hcell i hi
        have HNEW : Hid ((pre ++ [ws[i]]) ++ takF k (ws.eraseIdx i) = takF 9 bs ∧ Wt (ws.eraseIdx i) ∧ (ws.eraseIdx i).length ≤ k ∧ (ws.eraseIdx i).length ≤ 9 ∧ (pre ++ [ws[i]]).length + (ws.eraseIdx i).length = bs.length ∧ (ws.eraseIdx i).length < ws.length) := by
          have hle : (ws.eraseIdx i).length = ws.length - 1 := List.length_eraseIdx_of_lt hi
          refine ⟨by rw [← hpr, htk]; simp, hwt.erase i, by omega, by omega, by simp only [List.length_append, List.length_cons, List.length_nil]; omega, by omega⟩
        have i0 : (0 : Int) ≤ (i : Int) := by omega
        have i1 : (i : Int) < (ws.length : Int) := by omega
        rw [hz2] at hnx
        clear hz2 htk hcell hpr ha
        generalize ws[i] = m at *
        rw [show m = (m.1, m.2) from rfl] at HNEW
        generalize m.1 = x1 at *
        generalize m.2 = x2 at *
        go_wp2_with (go_at_call 97; refine hnx.mono ?_; rintro e w1' ⟨rfl, hb1⟩; refine held ?_)
        unfold Held
        have hB1 := hb.trans (hb1.mono hbs)
        have hmv := HMV.out _ (HX.out _ hB1)
        have ho1 := own_keep ho hb1
        have hov1 := own_keep hov hb1
        have e1 := (hb1.cell (p := ⟨b, off + i * 2, none⟩) hbl).trans d1
        have e2 := (hb1.cell (p := ⟨b, off + i * 2 + 1, none⟩) hbl).trans d2
        have hbl1 := Nat.lt_of_lt_of_le hbl hb1.size
        have hs1 := hB1.size
        clear hb1 ho hov hrd hb d1 d2 hnx
        go_wp2_with (go_at_call 73; refine hmv.mono ?_; rintro e w2' ⟨rfl, hb2⟩; refine held ?_)
        unfold Held
        have hB2 := hB1.trans (hb2.mono hs1)
        have ho2a := own_keep ho1 hb2
        have hov2 := own_keep hov1 hb2
        have f1 := (hb2.cell (p := ⟨b, off + i * 2, none⟩) hbl1).trans e1
        have f2 := (hb2.cell (p := ⟨b, off + i * 2 + 1, none⟩) hbl1).trans e2
        have hs2 := hB2.size
        have hnw := two_new w2' (.string x1) (.string x2) 33
        clear hb2 ho1 hov1 hB1 e1 e2 hmv
        go_wp2_with (at_builtin; refine held ?_)
        unfold Held
        refine app_lies rfl (.tmp 23) (.tmp 28) rfl w.heap.size _ pre (x1, x2) ⟨w2'.heap.size, 0, none⟩ 1 (by rfl) (by rfl) (own_keep hov2 ((Below.refl _ _).alloc (Nat.le_refl _) _)) hnw (by omega) (by simp; omega) ?_
        intro v3 wx hov3 hg3 hl3
        have hbx : Below w.heap.size w (w2'.alloc (.cells #[.string x1, .string x2] 33)) := hB2.alloc hs2 _
        have hB3 := hbx.trans (below_grown hg3 (by simp; omega) (own_block_ge hov2))
        have hs3 := hB3.size
        have ho3 := own_grown (own_keep ho2a ((Below.refl _ _).alloc (Nat.le_refl _) (.cells #[.string x1, .string x2] 33))) hg3 hap
        have hrdx : RdM wx (.slice (some ⟨b, off, none⟩) ws.length cap) ws := Rd.of_own ho3
        have hblx : b < wx.heap.size := (own_blk ho3 rfl).1
        have hsrc := Rd.cellsFrom hrdx
        clear hg3 hbx hB2 hov2 ho2a f1 f2 hnw hl3 hap
        have hcp : ∀ (W : World), Below wx.heap.size wx W → ∀ (j : Nat) (u : Value), (mcells (ws.take i))[j]? = some u → W.cell? ((⟨b, off, none⟩ : Addr).add j) = some u := fun W hW j u h => by
          rw [add_off]
          refine (hW.cell hblx).trans (hsrc j u ?_)
          rw [← mcells_take, List.getElem?_take] at h
          split at h
          · exact h
          · cases h
        have hcq : ∀ (W : World), Below wx.heap.size wx W → ∀ (j : Nat) (u : Value), (mcells (ws.drop (i + 1)))[j]? = some u → W.cell? ((⟨b, off + (i + 1) * 2, none⟩ : Addr).add j) = some u := fun W hW j u h => by
          rw [add_off, Nat.add_assoc]
          refine (hW.cell hblx).trans (hsrc _ u ?_)
          rw [← mcells_drop, List.getElem?_drop] at h
          exact h
        have hltk : (ws.take i).length = i := by rw [List.length_take]; omega
        have hldk : (ws.drop (i + 1)).length = ws.length - (i + 1) := by rw [List.length_drop]
        have hsum : (ws.take i).length + (ws.drop (i + 1)).length ≤ 1048576 := by omega
        have i2 : (i : Int) + 1 ≤ (ws.length : Int) := by omega
        have i3 : (i : Int) ≤ (ws.length : Int) := by omega
        have HER : Hid (ws.take i ++ ws.drop (i + 1) = ws.eraseIdx i) := by show _ = _; rw [List.eraseIdx_eq_take_drop_succ]
        have HCP := Lib.hid hcp
        have HCQ := Lib.hid hcq
        have n1 : i ≤ cap := by omega
        have n2 : i + 1 ≤ ws.length := by omega
        have n3 : i + 1 ≤ cap := by omega
        have n4 : IntKind.i64.wrap ((i : Int) + 1) = (i : Int) + 1 := IntWalk.i64_in _ ⟨by omega, by omega⟩
        have n5 : ((i : Int) + 1).toNat = i + 1 := by omega
        have n6 : (0 : Int) ≤ (i : Int) + 1 := by omega
        clear hcp hcq hsrc
        generalize ws.take i = p1 at *
        generalize ws.drop (i + 1) = p2 at *
        by_cases hcap : cap = i + 1
        · subst hcap
          have hp20 : p2.length = 0 := by omega
          have n7 : (i : Int) ≤ (i : Int) + 1 := by omega
          have HCZ : Hid (∀ (W : World) (j : Nat) (u : Value), (mcells p2)[j]? = some u → W.cell? ((⟨b, off, none⟩ : Addr).add j) = some u) := fun W j u h => by
            have : p2 = [] := List.length_eq_zero_iff.1 (by omega)
            rw [this] at h; simp [mcells] at h
          go_wp2
          go_region_law (first
                    | (refine step_appM rfl (.tmp 30) (.tmp 33) rfl wx.heap.size (.slice (some ⟨wx.heap.size, 0, none⟩) 0 0) [] p1 ⟨b, off, none⟩ (i + 1) (by rfl) (by rw [hltk]; rfl) (own_lit1 _ _ _ _ rfl (Nat.le_refl _)) (HCP.out _ (by (repeat' (first | (with_reducible exact Below.refl _ _) | (with_reducible assumption) | (with_reducible refine Below.alloc ?_ ?_ _) | (with_reducible refine Below.drew ?_) | (with_reducible refine Below.setCell ?_ ?_ _) | (with_reducible exact Nat.le_refl _) | omega | ((repeat (first | rewrite [World.size_alloc] | rewrite [World.size_setCell] | rewrite [World.size_drew])); omega) | (simp; omega) | (simp; done))))) (by simp; omega) (by simp) ?_; intro vq wq ho1 hg1; have hb1' := Below.trans (show Below wx.heap.size wx ((wx.alloc (.cells #[] 33)).drew) by (repeat' (first | (with_reducible exact Below.refl _ _) | (with_reducible assumption) | (with_reducible refine Below.alloc ?_ ?_ _) | (with_reducible refine Below.drew ?_) | (with_reducible refine Below.setCell ?_ ?_ _) | (with_reducible exact Nat.le_refl _) | omega | ((repeat (first | rewrite [World.size_alloc] | rewrite [World.size_setCell] | rewrite [World.size_drew])); omega) | (simp; omega) | (simp; done)))) (below_grown hg1 (by simp) (fun g e => by have e' : some wx.heap.size = some g := e; cases e'; omega)))
                    | (refine step_appM rfl (.tmp 34) (.tmp 38) rfl wx.heap.size _ _ p2 ⟨b, off, none⟩ 0 (by rfl) (by rw [hp20]; rfl) ho1.out (HCZ.out _) (by simpa using hsum) (by have := hg1.size; simp at this; omega) ?_; intro v2 w2 ho2 hg2))
          have hz1 := hg1.size
          have hz2 := hg2.size
          simp only [World.size_alloc, World.size_drew] at hz1
          have hge1 := own_block_ge ho1.out
          have hb2 : Below wx.heap.size wx w2 := hb1'.trans (below_grown hg2 (by omega) (fun g e => by have := hge1 g e; omega))
          have ho2' : w2.ownsRow wx.heap.size 33 2 v2 (ws.eraseIdx i).length (mcells (ws.eraseIdx i)) := by
            have := ho2.out
            rw [List.nil_append, HER.out] at this
            exact this
          have HO2 := Lib.hid ho2'
          clear hg1 hg2 ho1 ho2 hb1' ho2' hge1 hz1 hz2 HCP HCQ HER
          
          have hov4 := own_keep hov3 hb2
          have hB4 := hB3.trans (hb2.mono hs3)
          have hap4 : v2.ownBlock ≠ v3.ownBlock ∨ v3.ownBlock = none := ne_turn (own_ne hov3 HO2.out (Nat.le_refl _))
          have hlv2 : lenV v2 = (ws.eraseIdx i).length := by obtain ⟨A, c, e, _⟩ := Rd.of_own HO2.out; rw [e]; rfl
          have hR : TakS w 33 bs k v3 v2 w2 := ⟨_, ws.eraseIdx i, HNEW.out.1, HNEW.out.2.1, HNEW.out.2.2.1, HNEW.out.2.2.2.1, HNEW.out.2.2.2.2.1, own_more HO2.out hs3, hov4, hap4, hB4⟩
          have hlt5 := HNEW.out.2.2.2.2.2
          clear hov4 hB4 hap4 hov3 hrdx ho3 hB3 hb2
          go_simp
          try go_wp2
          go_roundw
          case rel => exact ⟨k, hR⟩
          case measure => rw [hlv2]; exact hlt5
        · go_wp2
          go_region_law (first
                    | (refine step_appM rfl (.tmp 30) (.tmp 33) rfl wx.heap.size (.slice (some ⟨wx.heap.size, 0, none⟩) 0 0) [] p1 ⟨b, off, none⟩ cap (by rfl) (by rw [hltk]; rfl) (own_lit1 _ _ _ _ rfl (Nat.le_refl _)) (HCP.out _ (by (repeat' (first | (with_reducible exact Below.refl _ _) | (with_reducible assumption) | (with_reducible refine Below.alloc ?_ ?_ _) | (with_reducible refine Below.drew ?_) | (with_reducible refine Below.setCell ?_ ?_ _) | (with_reducible exact Nat.le_refl _) | omega | ((repeat (first | rewrite [World.size_alloc] | rewrite [World.size_setCell] | rewrite [World.size_drew])); omega) | (simp; omega) | (simp; done))))) (by simp; omega) (by simp) ?_; intro vq wq ho1 hg1; have hb1' := Below.trans (show Below wx.heap.size wx ((wx.alloc (.cells #[] 33)).drew) by (repeat' (first | (with_reducible exact Below.refl _ _) | (with_reducible assumption) | (with_reducible refine Below.alloc ?_ ?_ _) | (with_reducible refine Below.drew ?_) | (with_reducible refine Below.setCell ?_ ?_ _) | (with_reducible exact Nat.le_refl _) | omega | ((repeat (first | rewrite [World.size_alloc] | rewrite [World.size_setCell] | rewrite [World.size_drew])); omega) | (simp; omega) | (simp; done)))) (below_grown hg1 (by simp) (fun g e => by have e' : some wx.heap.size = some g := e; cases e'; omega)))
                    | (refine step_appM rfl (.tmp 34) (.tmp 38) rfl wx.heap.size _ _ p2 ⟨b, off + (i + 1) * 2, none⟩ (cap - (i + 1)) (by rfl) (by rw [hldk]; rfl) ho1.out (HCQ.out _ hb1') (by simpa using hsum) (by have := hg1.size; simp at this; omega) ?_; intro v2 w2 ho2 hg2))
          have hz1 := hg1.size
          have hz2 := hg2.size
          simp only [World.size_alloc, World.size_drew] at hz1
          have hge1 := own_block_ge ho1.out
          have hb2 : Below wx.heap.size wx w2 := hb1'.trans (below_grown hg2 (by omega) (fun g e => by have := hge1 g e; omega))
          have ho2' : w2.ownsRow wx.heap.size 33 2 v2 (ws.eraseIdx i).length (mcells (ws.eraseIdx i)) := by
            have := ho2.out
            rw [List.nil_append, HER.out] at this
            exact this
          have HO2 := Lib.hid ho2'
          clear hg1 hg2 ho1 ho2 hb1' ho2' hge1 hz1 hz2 HCP HCQ HER
          
          have hov4 := own_keep hov3 hb2
          have hB4 := hB3.trans (hb2.mono hs3)
          have hap4 : v2.ownBlock ≠ v3.ownBlock ∨ v3.ownBlock = none := ne_turn (own_ne hov3 HO2.out (Nat.le_refl _))
          have hlv2 : lenV v2 = (ws.eraseIdx i).length := by obtain ⟨A, c, e, _⟩ := Rd.of_own HO2.out; rw [e]; rfl
          have hR : TakS w 33 bs k v3 v2 w2 := ⟨_, ws.eraseIdx i, HNEW.out.1, HNEW.out.2.1, HNEW.out.2.2.1, HNEW.out.2.2.2.1, HNEW.out.2.2.2.2.1, own_more HO2.out hs3, hov4, hap4, hB4⟩
          have hlt5 := HNEW.out.2.2.2.2.2
          clear hov4 hB4 hap4 hov3 hrdx ho3 hB3 hb2
          go_simp
          try go_wp2
          go_roundw
          case rel => exact ⟨k, hR⟩
          case measure => rw [hlv2]; exact hlt5

    · have : ws = [] := List.length_eq_zero_iff.1 (by omega)
      subst this
      rw [takF_nil, List.append_nil] at hpr
      have hT : Hid (wspB xs = true) := by
        show _ = _
        rw [HWB.out, decide_eq_true_eq, ← hpr]
        simpa using hps
      have hov2 := hov
      rw [hpr] at hov2
      have hmv := HMV.out _ (HX.out _ hb)
      clear hov ho hcell hrd
      go_wp2_with (go_at_call 73; refine hmv.mono ?_; rintro e w2' ⟨rfl, hb2⟩; refine held ?_)
      unfold Held
      have hov3 := own_keep hov2 hb2
      have hB2 := hb.trans (hb2.mono hbs)
      clear hov2 hb2 hmv hb
      go_wp2
      go_ret2
      exact ⟨_, by rw [hT.out]; rfl, by rw [HWM.out, hT.out, if_pos rfl]; exact hov3, hB2⟩
set_option maxRecDepth 100000 in
set_option maxHeartbeats 3200000 in
theorem spWithout_no (xs : List Mv) (h1 : ¬ MV xs) (v : Value) (w : World) (hx : RdM w v xs) (hz : ∀ m ∈ xs, m.1.size ≤ 9223372036854775807 ∧ m.2.size ≤ 9223372036854775807) (hn' : xs.length ≤ 1048576) :
    Calls Try.prog 46 #[v] w fun e w' => ∃ v', e = .returned (.tuple #[v', .bool (wspB xs)]) ∧ w'.ownsRow w.heap.size 33 2 v' (wspM xs).length (mcells (wspM xs)) ∧ Below w.heap.size w w' := by
  have hm1 : mvalid xs = false := by simpa [mvalid] using h1
  have hl9 := busyF_len xs 9
  have hF : Hid (wspB xs = false) := by show _ = _; unfold wspB; rw [hm1]; rfl
  have HWM : Hid (wspM xs = if wspB xs then takM xs else []) := rfl
  have hne := busyF_ne xs
  have HNX := Lib.hid (fun ws wv A hx hl hn => l5Next_c ws wv A hx (by omega : ws.length ≤ 1048575) hn)
  have HMV := Lib.hid (fun W h => spMovesValid_c xs v W h hz hn')
  rw [hm1] at HMV
  have HX := Lib.hid (fun W (hW : Below w.heap.size w W) => hx.below hW)
  have hE0 := World.ownsRow_lit (e := 33) (base := w.heap.size) (size := 2) w #[] 0 (Nat.le_refl _) (Nat.zero_le _) rfl
  have hb0 : Below w.heap.size w (w.alloc (.cells #[] 33)) := (Below.refl _ _).alloc (Nat.le_refl _) _
  have HB := Lib.hid (l1Busy_c xs v _ (hx.below hb0))
  go_enter Try.func46, Try.ntmps46
  go_wp2_with (go_at_call 75; refine HB.out.mono ?_; rintro e w1 ⟨v1, rfl, ho1, hb1⟩; refine held ?_)
  unfold Held
  have hb01 := hb0.trans (hb1.mono (by simp))
  have hrd1 : RdM w1 v1 (busyF xs 9) := Rd.of_own ho1
  have hE1 := own_keep hE0 hb1
  have hs1 := hb01.size
  clear hE0 hb0 HB ho1 hb1 hx
  generalize busyF xs 9 = bs at *
  go_wp2
  go_loopw [4, 5, 6] (fun ov wv _ wr => ov = .slice (some ⟨w.heap.size, 0, none⟩) 0 0 ∧ wv = v1 ∧ wr = w1) (fun _ wv _ _ => 0)
  case atStart => exact ⟨rfl, rfl, rfl⟩
  case round =>
    obtain ⟨rfl, rfl, rfl⟩ := hrel
    obtain ⟨A, cap, rfl, hn1, hc1, hcell⟩ := hrd1.open
    by_cases h0 : 0 < bs.length
    · have i00 : (0 : Int) < (bs.length : Int) := by omega
      have hnx := HNX.out bs _ wr hrd1 (by omega) hne
      clear hcell
      rcases aheadZ_lt bs with hz2 | ⟨i, hi, hz2, ha⟩
      · rw [hz2] at hnx
        go_wp2_with (go_at_call 97; refine hnx.mono ?_; rintro e w1' ⟨rfl, hb1⟩; refine held ?_)
        unfold Held
        have hB1 := hb01.trans (hb1.mono hs1)
        have hs2 := hB1.size
        have hE := World.ownsRow_lit (e := 33) (base := w.heap.size) (size := 2) w1' #[] 0 (by omega) (Nat.zero_le _) rfl
        have hB2 := hB1.alloc hs2 (.cells #[] 33)
        clear hb1 hE1 hrd1
        go_wp2
        go_ret2
        exact ⟨_, by rw [hF.out]; rfl, by rw [HWM.out, hF.out]; exact hE, hB2⟩
      · rw [hz2] at hnx
        have i0 : (0 : Int) ≤ (i : Int) := by omega
        have i1 : ¬ (i : Int) < 0 := by omega
        go_wp2_with (go_at_call 97; refine hnx.mono ?_; rintro e w1' ⟨rfl, hb1⟩; refine held ?_)
        unfold Held
        have hB1 := hb01.trans (hb1.mono hs1)
        have hs2 := hB1.size
        have hmv := HMV.out _ (HX.out _ hB1)
        clear hb1 hE1 hrd1 hnx
        go_wp2_with (go_at_call 73; refine hmv.mono ?_; rintro e w2' ⟨rfl, hb2⟩; refine held ?_)
        unfold Held
        have hB2 := hB1.trans (hb2.mono hs2)
        have hs3 := hB2.size
        have hE := World.ownsRow_lit (e := 33) (base := w.heap.size) (size := 2) w2' #[] 0 (by omega) (Nat.zero_le _) rfl
        have hB3 := hB2.alloc hs3 (.cells #[] 33)
        clear hb2 hmv
        go_wp2
        go_ret2
        exact ⟨_, by rw [hF.out]; rfl, by rw [HWM.out, hF.out]; exact hE, hB3⟩
    · have : bs = [] := List.length_eq_zero_iff.1 (by omega)
      subst this
      have hmv := HMV.out _ (HX.out _ hb01)
      clear hcell hrd1
      go_wp2_with (go_at_call 73; refine hmv.mono ?_; rintro e w2' ⟨rfl, hb2⟩; refine held ?_)
      unfold Held
      have hE2 := own_keep hE1 hb2
      have hB2 := hb01.trans (hb2.mono hs1)
      clear hb2 hmv hE1
      go_wp2
      go_ret2
      exact ⟨_, by rw [hF.out]; rfl, by rw [HWM.out, hF.out]; exact hE2, hB2⟩
theorem spWithoutSpare_c (xs : List Mv) (v : Value) (w : World) (hx : RdM w v xs) (hz : ∀ m ∈ xs, m.1.size ≤ 9223372036854775807 ∧ m.2.size ≤ 9223372036854775807) (hn' : xs.length ≤ 1048576) :
    Calls Try.prog 46 #[v] w fun e w' => ∃ v', e = .returned (.tuple #[v', .bool (wspB xs)]) ∧ w'.ownsRow w.heap.size 33 2 v' (wspM xs).length (mcells (wspM xs)) ∧ Below w.heap.size w w' := by
  by_cases h1 : MV xs
  · exact spWithout_yes xs h1 v w hx hz hn'
  · exact spWithout_no xs h1 v w hx hz hn'
end Go.Proofs.Ytbgchjjaaelkbaa
namespace Go.Proofs.Ytbgchjjaaelkbaa
open Go.RowKit Go.PM Go.ChangeShapes Go.WideShapes Go.Deep

theorem own : ownKnob Try.prog.godebug = none := by kernel_rfl
theorem laidOut : laidOutB Try.prog = true := by kernel_rfl

theorem exists_list {α : Type} (Q : Nat → α → Prop) : ∀ n, (∀ i, i < n → ∃ m, Q i m) → ∃ xs : List α, xs.length = n ∧ ∀ i (h : i < xs.length), Q i xs[i]
  | 0, _ => ⟨[], rfl, fun i h => absurd h (Nat.not_lt_zero _)⟩
  | n + 1, h => by
    obtain ⟨xs, hl, hx⟩ := exists_list Q n fun i hi => h i (by omega)
    obtain ⟨m, hm⟩ := h n (by omega)
    refine ⟨xs ++ [m], by simp [hl], fun i hi => ?_⟩
    by_cases h1 : i < xs.length
    · rw [List.getElem_append_left h1]; exact hx i h1
    · have h2 : i = xs.length := by simp at hi; omega
      subst h2
      rw [List.getElem_append_right (Nat.le_refl _)]
      simpa [hl] using hm

theorem rdM_mk {w : World} {ad : Addr} {cap : Nat} (xs : List Mv) (hc : xs.length ≤ cap) (hn : xs.length ≤ 9223372036854775807)
    (h : ∀ i (hi : i < xs.length), w.cell? (ad.add (i * 2)) = some (.string xs[i].1) ∧ w.cell? ((ad.add (i * 2)).add 1) = some (.string xs[i].2)) : RdM w (.slice (some ad) xs.length cap) xs := by
  refine ⟨some ad, cap, rfl, hc, hn, mcells_length xs, fun h0 => ?_⟩
  have h1 := (h 0 h0).1
  obtain ⟨b, off, spot⟩ := ad
  have hs : spot = none := by
    have := World.cell?_spot h1
    simpa [Addr.add] using this
  subst hs
  have hadd : ∀ o i, (Addr.mk b o none).add i = ⟨b, o + i, none⟩ := fun o i => by
    unfold Addr.add; split
    · next h => subst h; rfl
    · rfl
  refine ⟨b, off, rfl, ?_, fun j u hu => ?_⟩
  · rcases Nat.lt_or_ge b w.heap.size with hlt | hge
    · exact hlt
    · rw [hadd] at h1
      simp [World.cell?, Array.getElem?_eq_none hge] at h1
  · have hj : j < xs.length * 2 := by rw [← mcells_length]; exact (List.getElem?_eq_some_iff.1 hu).1
    have hk : j / 2 < xs.length := by omega
    have hm := mcells_at xs (j / 2) _ (List.getElem?_eq_getElem hk)
    have hh := h (j / 2) hk
    rw [hadd, hadd] at hh
    rcases Nat.mod_two_eq_zero_or_one j with h0 | h0
    · have e : j / 2 * 2 = j := by omega
      rw [e] at hm hh
      rw [hm.1] at hu
      rw [hh.1, hu]
    · have e : j / 2 * 2 + 1 = j := by omega
      rw [e] at hm
      rw [Nat.add_assoc, e] at hh
      rw [hm.2] at hu
      rw [hh.2, hu]

set_option maxRecDepth 100000 in
theorem open_moves {H : Type} {enc : TypeId × Value → H} {W : World} {base fuel : Nat} {spare : Nat → Bool} {held : Bool} {a : Option Addr} {n c : Nat} {x : DataW H × List MemPlace}
    (h : DataW.trod enc Try.prog W base spare held fuel 55 [.slice a n c] = some x) :
    ∃ xs : List Mv, RdM W (.slice a n c) xs ∧ ∀ m ∈ xs, m.1.size ≤ 9223372036854775807 ∧ m.2.size ≤ 9223372036854775807 := by
  rcases open_slice Try.underlying55 h with ⟨hcs, _⟩ | ⟨ad, len, cap, m, k, D, Pl, hcs, hb, hl, hm, hmm, hx, hi⟩
  · simp at hcs
    obtain ⟨rfl, rfl, rfl⟩ := hcs
    exact ⟨[], ⟨none, 0, rfl, by simp, by simp, rfl, by simp⟩, by simp⟩
  · simp at hcs
    obtain ⟨rfl, rfl, rfl⟩ := hcs
    have hC : Try.prog.cellsOf 65 = 2 := by kernel_rfl
    have hml : n ≤ m := by rw [hmm]; split <;> omega
    have hM : maxLen = 9223372036854775807 := rfl
    obtain ⟨xs, hxl, hxs⟩ := exists_list (fun i (m : Mv) => W.cell? (ad.add (i * 2)) = some (.string m.1) ∧ W.cell? ((ad.add (i * 2)).add 1) = some (.string m.2) ∧ m.1.size ≤ 9223372036854775807 ∧ m.2.size ≤ 9223372036854775807) n (fun i hin => by
      obtain ⟨cs', hc', ht⟩ := hi i (by omega)
      rw [hC] at hc'
      obtain ⟨y0, y1, k', _, hlen, h0, h1⟩ := trod_struct2 Try.underlying65 ht
      obtain ⟨_, hcl, hat⟩ := World.cells?_some hc'
      rw [hC] at hlen
      match cs', hlen with
      | [c0, c1], _ =>
        have e0 : Try.prog.cellsOf 9 = 1 := by kernel_rfl
        simp only [e0] at h0 h1
        simp at h0 h1
        obtain ⟨s, hs, _, hs1⟩ := DataW.trod_string Try.underlying9 h0
        obtain ⟨t, hta, _, ht1⟩ := DataW.trod_string Try.underlying9 h1
        simp at hs hta
        subst hs hta
        refine ⟨(s, t), ?_, ?_, hM ▸ hs1, hM ▸ ht1⟩
        · have := hat 0 (by omega)
          simpa [Addr.add] using this
        · have := hat 1 (by omega)
          simpa using this)
    subst hxl
    refine ⟨xs, rdM_mk xs hl (by omega) fun i hi => ⟨(hxs i hi).1, (hxs i hi).2.1⟩, fun m hm => ?_⟩
    obtain ⟨i, hi, rfl⟩ := List.getElem_of_mem hm
    exact (hxs i hi).2.2
end Go.Proofs.Ytbgchjjaaelkbaa
namespace Go.Proofs.Ytbgchjjaaelkbaa
open Go.RowKit Go.PM
open Go.ChangeShapes Go.WideShapes Go.Deep in
set_option maxRecDepth 100000 in
theorem open_bytes {H : Type} {enc : TypeId × Value → H} {W : World} {base fuel : Nat} {spare : Nat → Bool} {held : Bool} {a : Option Addr} {n c : Nat} {x : DataW H × List MemPlace}
    (h : DataW.trod enc Try.prog W base spare held fuel 22 [.slice a n c] = some x) : RdB W W.heap.size (.slice a n c) n := by
  rcases open_slice Try.underlying22 h with ⟨hcs, _⟩ | ⟨ad, len, cap, m, k, D, Pl, hcs, hb, hl, hm, hmm, hx, hi⟩
  · simp at hcs
    obtain ⟨rfl, rfl, rfl⟩ := hcs
    exact ⟨none, 0, rfl, by omega, by omega, fun k hk => absurd hk (Nat.not_lt_zero k)⟩
  · simp at hcs
    obtain ⟨rfl, rfl, rfl⟩ := hcs
    have hC : Try.prog.cellsOf 5 = 1 := by kernel_rfl
    have hml : n ≤ m := by rw [hmm]; split <;> omega
    have hM : maxLen = 9223372036854775807 := rfl
    have hcell : ∀ i, i < n → ∃ kk, W.cell? (ad.add i) = some (.int .u8 kk) ∧ 0 ≤ kk ∧ kk ≤ 255 := fun i hin => by
      obtain ⟨cs', hc', ht⟩ := hi i (by omega)
      rw [hC] at hc'
      obtain ⟨kk, hk, _, hwf⟩ := DataW.trod_int Try.underlying5 ht
      subst hk
      obtain ⟨_, hcl, hat⟩ := World.cells?_some hc'
      have h1 := hat 0 (by omega)
      refine ⟨kk, by simpa [Addr.add] using h1, ?_⟩
      simpa [Lit.wf, IntKind.min, IntKind.max, IntKind.signed, IntKind.bits] using hwf
    clear hi hx h
    refine ⟨some ad, c, rfl, by omega, by omega, fun i hin => ?_⟩
    obtain ⟨b, off, spot⟩ := ad
    have hs : spot = none := by
      obtain ⟨_, h0, _⟩ := hcell 0 (by omega)
      have := World.cell?_spot h0
      simpa [Addr.add] using this
    subst hs
    obtain ⟨kk, h1, hw1, hw2⟩ := hcell i hin
    have hadd : (Addr.mk b off none).add i = ⟨b, off + i, none⟩ := by
      unfold Addr.add; split
      · next h => subst h; rfl
      · rfl
    rw [hadd] at h1
    have hb : b < W.heap.size := by
      rcases Nat.lt_or_ge b W.heap.size with hlt | hge
      · exact hlt
      · simp [World.cell?, Array.getElem?_eq_none hge] at h1
    exact ⟨b, off, kk, rfl, hb, hb, h1, hw1, by omega⟩
end Go.Proofs.Ytbgchjjaaelkbaa
namespace Go.PM
open Go.RowKit
theorem wspM_small (xs : List Mv) : ∀ m ∈ wspM xs, m.1.size ≤ 64 ∧ m.2.size ≤ 64 := by
  intro m hm
  unfold wspM at hm
  split at hm
  · next h =>
    unfold wspB at h
    rw [Bool.and_eq_true] at h
    have hMV : MV xs := by simpa [mvalid] using h.1
    have hl : busyF xs 9 = lsF (fun p => srcM xs (nm p)) 9 := rfl
    have hB : MV (busyF xs 9) := by rw [hl]; exact lsF_MV (SVal_M hMV)
    have hin : ∀ (n : Nat) (ws : List Mv) (m : Mv), m ∈ takF n ws → m ∈ ws := by
      intro n
      induction n with
      | zero => intro ws m h; cases h
      | succ n ih =>
        intro ws m h
        cases ha : aheadI ws with
        | none => rw [takF_none ha] at h; cases h
        | some i =>
          obtain ⟨hi, _⟩ := aheadI_some ha
          rw [takF_some hi ha, List.mem_cons] at h
          rcases h with rfl | h
          · exact List.getElem_mem hi
          · exact erase_mem (ih _ _ h)
    have h2 := hB.1 m (hin 9 _ m hm)
    unfold mok at h2
    rw [Bool.and_eq_true] at h2
    have e1 := isP_size h2.1
    have e2 := isS_size h2.2
    omega
  · cases hm
end Go.PM
namespace Go.Proofs.Ytbgchjjaaelkbaa
open Go.RowKit Go.PM

set_option maxHeartbeats 800000 in
theorem drawWithoutSpare_c (w : World) (v : Value) (n : Nat) (hv : RdB w w.heap.size v n) :
    Calls Try.prog 44 #[v] w fun e w' => ∃ u xs, e = .returned u ∧ w'.ownsRow w.heap.size 33 2 u xs.length (mcells xs) ∧ (xs.length ≤ 65 ∧ ∀ m ∈ xs, m.1.size ≤ 64 ∧ m.2.size ≤ 64) ∧ Below w.heap.size w w' := by
  have HO := Lib.hid (l13Open_c w v n hv)
  go_enter Try.func44, Try.ntmps44
  go_wp2_with fail
  refine HO.out.mono ?_
  rintro e w1 ⟨r, rfl, R1, b1⟩
  have hs1 := b1.size
  have hB := R1.1
  have hlt : r < w1.heap.size := by obtain ⟨_, _, v, n, _, _, h⟩ := R1; exact h.lt
  have HS := Lib.hid (l1Some_c w1 _ r 0 R1 (by omega))
  go_wp2_with fail
  refine HS.out.mono ?_
  rintro e w2 ⟨u, xs, p', rfl, ho, hsh, R2, hp, g2⟩
  have HSH := Lib.hid hsh
  have ho2 := own_more ho hs1
  have b2 : Below w.heap.size w w2 := b1.trans (below_grown g2 hs1 (fun g e => by cases e; exact hB))
  clear HO HS hsh
  go_wp2
  go_ret
  exact ⟨_, xs, rfl, ho2, HSH.out, b2⟩
set_option maxHeartbeats 1600000 in
theorem drawIsOrdered_c (w : World) (v : Value) (n : Nat) (hv : RdB w w.heap.size v n) :
    Calls Try.prog 47 #[v] w fun e w' => ∃ u xs, e = .returned u ∧ w'.ownsRow w.heap.size 33 2 u xs.length (mcells xs) ∧ (xs.length ≤ 65 ∧ ∀ m ∈ xs, m.1.size ≤ 64 ∧ m.2.size ≤ 64) ∧ Below w.heap.size w w' := by
  have HO := Lib.hid (l13Open_c w v n hv)
  go_enter Try.func47, Try.ntmps47
  go_wp2_with fail
  refine HO.out.mono ?_
  rintro e w1 ⟨r, rfl, R1, b1⟩
  have hs1 := b1.size
  have hB := R1.1
  have hlt : r < w1.heap.size := by obtain ⟨_, _, v, n, _, _, h⟩ := R1; exact h.lt
  have HS := Lib.hid (l1Some_c w1 _ r 0 R1 (by omega))
  go_wp2_with fail
  refine HS.out.mono ?_
  rintro e w2 ⟨u, xs, p', rfl, ho, hsh, R2, hp, g2⟩
  have HSH := Lib.hid hsh
  have ho2 := own_more ho hs1
  have b2 : Below w.heap.size w w2 := b1.trans (below_grown g2 hs1 (fun g e => by cases e; exact hB))
  have hrd : RdM w2 u xs := Rd.of_own ho2
  have hs2 := b2.size
  have HW := Lib.hid (spWithoutSpare_c xs u w2 hrd (fun m hm => by have := hsh.2 m hm; omega) (by have := hsh.1; omega))
  have hgeo := own_block_ge ho
  clear HO HS hsh hrd
  go_wp2_with fail
  refine HW.out.mono ?_
  rintro e w3 ⟨u3, rfl, ho3, b3⟩
  have R3 := R2.keep b3
  have b4 := b2.trans (b3.mono hs2)
  have hs3 := b4.size
  have ho4 := own_keep ho2 b3
  have HP := Lib.hid (pick_c w3 _ r 2 p' R3 (by omega) (by omega) (by omega))
  have hrlt : r < w2.heap.size := by obtain ⟨_, _, v, n, _, _, h⟩ := R2; exact h.lt
  clear HW
  rcases Bool.eq_false_or_eq_true (wspB xs) with hb | hb
  · go_wp2_with fail
    refine HP.out.mono ?_
    rintro e w4 ⟨k, rfl, k0, k1, R4, g4⟩
    have ho5 := own_grown ho3 g4 (.inl (fun e => by have := own_block_ge ho3 r e; omega))
    have ho6 := own_grown ho4 g4 (.inl (fun e => by have := hgeo r e; omega))
    have b5 := b4.trans (below_grown g4 hs3 (fun g e => by cases e; exact hB))
    clear HP ho3 ho4 g4 R4
    by_cases h0 : k = 0
    · subst h0
      go_wp2
      go_ret
      exact ⟨_, wspM xs, rfl, own_more ho5 hs2, ⟨by have := wspM_len xs; omega, wspM_small xs⟩, b5⟩
    · have t0 : (k == 0) = false := by simpa using h0
      go_wp2
      go_ret
      exact ⟨_, xs, rfl, ho6, HSH.out, b5⟩
  · go_wp2
    go_ret
    exact ⟨_, xs, rfl, ho4, HSH.out, b4⟩
end Go.Proofs.Ytbgchjjaaelkbaa
namespace Go.Proofs.Ytbgchjjaaelkbaa
open Go.RowKit Go.PM Go.Lib

theorem cellOf_yes (s : ByteArray) (h : isC s = true) (w : World) :
    Calls Try.prog 149 #[.string s] w fun e w' => e = .returned (.tuple #[.int .i64 (cidx s), .bool true]) ∧ w = w' := by
  obtain ⟨c, rfl⟩ := one_of_size (isC_size h)
  have h2 : c ∈ cellsL := by simpa [isC] using h
  have h4 : indexByte cellsL c = (cidx ⟨#[c]⟩ : Nat) := (cidx_one h2).1
  have h5 := fun W => positionIn_yes ⟨#[97, 98, 99, 100, 101, 102, 65, 66, 67, 116, 117]⟩ c _ h4 W
  clear h h2 h4
  generalize cidx ⟨#[c]⟩ = i at *
  go_enter Try.func149, Try.ntmps149
  go_wp2_with (go_at_call 123; refine (h5 _).mono ?_; rintro e w' ⟨rfl, rfl⟩)
  go_ret2
  exact ⟨rfl, rfl⟩
theorem cellOf_no (s : ByteArray) (h : isC s = false) (w : World) :
    Calls Try.prog 149 #[.string s] w fun e w' => e = .returned (.tuple #[.int .i64 0, .bool false]) ∧ w = w' := by
  have h5 := fun W => positionIn_no ⟨#[97, 98, 99, 100, 101, 102, 65, 66, 67, 116, 117]⟩ s (fun c hc hm => by
    rw [hc] at h
    have : isC ⟨#[c]⟩ = true := by simpa [isC, cellsL] using hm
    rw [this] at h; cases h) W
  clear h
  go_enter Try.func149, Try.ntmps149
  go_wp2_with (go_at_call 123; refine (h5 _).mono ?_; rintro e w' ⟨rfl, rfl⟩)
  go_ret2
  exact ⟨rfl, rfl⟩
theorem isCell_c (s : ByteArray) (w : World) :
    Calls Try.prog 148 #[.string s] w fun e w' => e = .returned (.bool (isC s)) ∧ w = w' := by
  rcases Bool.eq_false_or_eq_true (isC s) with h | h
  · go_enter Try.func148, Try.ntmps148
    go_wp2_with (go_at_call 149; refine (cellOf_yes s h _).mono ?_; rintro e w' ⟨rfl, rfl⟩)
    go_ret
    exact ⟨by rw [h]; rfl, rfl⟩
  · go_enter Try.func148, Try.ntmps148
    go_wp2_with (go_at_call 149; refine (cellOf_no s h _).mono ?_; rintro e w' ⟨rfl, rfl⟩)
    go_ret
    exact ⟨by rw [h]; rfl, rfl⟩
set_option maxHeartbeats 800000 in
theorem stepValid_c (k : Int) (a b : ByteArray) (w : World) :
    Calls Try.prog 137 #[.agg #[.int .i64 k, .string a, .string b]] w fun e w' => e = .returned (.bool (stOk (k, a, b))) ∧ Below w.heap.size w w' := by
  have HS : Hid (stOk (k, a, b) = ((decide (k = 0) && (isC a && (isC b || isD b))) || (decide (k = 1) && (isC a && isC b)))) := rfl
  by_cases hk0 : k = 0
  · subst hk0
    rcases Bool.eq_false_or_eq_true (isC a) with h1 | h1 <;> rcases Bool.eq_false_or_eq_true (isC b) with h2 | h2
    all_goals
      go_enter Try.func137, Try.ntmps137
      go_wp2_with (first | (go_at_call 148; refine (isCell_c _ _).mono ?_; rintro e w' ⟨rfl, rfl⟩) | (go_at_call 131; refine (isDigit_c _ _).mono ?_; rintro e w' ⟨rfl, rfl⟩))
      go_ret
      exact ⟨by rw [HS.out, h1, h2]; simp, by (repeat' (first | (with_reducible exact Below.refl _ _) | (with_reducible assumption) | (with_reducible refine Below.alloc ?_ ?_ _) | (with_reducible refine Below.drew ?_) | (with_reducible refine Below.setCell ?_ ?_ _) | (with_reducible exact Nat.le_refl _) | omega | ((repeat (first | rewrite [World.size_alloc] | rewrite [World.size_setCell] | rewrite [World.size_drew])); omega) | (simp; omega) | (simp; done)))⟩
  · by_cases hk1 : k = 1
    · subst hk1
      rcases Bool.eq_false_or_eq_true (isC a) with h1 | h1 <;> rcases Bool.eq_false_or_eq_true (isC b) with h2 | h2
      all_goals
        go_enter Try.func137, Try.ntmps137
        go_wp2_with (first | (go_at_call 148; refine (isCell_c _ _).mono ?_; rintro e w' ⟨rfl, rfl⟩) | (go_at_call 131; refine (isDigit_c _ _).mono ?_; rintro e w' ⟨rfl, rfl⟩))
        go_ret
        exact ⟨by rw [HS.out, h1, h2]; simp, by (repeat' (first | (with_reducible exact Below.refl _ _) | (with_reducible assumption) | (with_reducible refine Below.alloc ?_ ?_ _) | (with_reducible refine Below.drew ?_) | (with_reducible refine Below.setCell ?_ ?_ _) | (with_reducible exact Nat.le_refl _) | omega | ((repeat (first | rewrite [World.size_alloc] | rewrite [World.size_setCell] | rewrite [World.size_drew])); omega) | (simp; omega) | (simp; done)))⟩
    · have t0 : (k == 0) = false := by simpa using hk0
      have t1 : (k == 1) = false := by simpa using hk1
      have HF : Hid (stOk (k, a, b) = false) := by show _ = _; rw [HS.out]; simp [hk0, hk1]
      clear hk0 hk1
      go_enter Try.func137, Try.ntmps137
      go_wp2_with (first | (go_at_call 148; refine (isCell_c _ _).mono ?_; rintro e w' ⟨rfl, rfl⟩))
      go_ret
      exact ⟨by rw [HF.out]; rfl, by (repeat' (first | (with_reducible exact Below.refl _ _) | (with_reducible assumption) | (with_reducible refine Below.alloc ?_ ?_ _) | (with_reducible refine Below.drew ?_) | (with_reducible refine Below.setCell ?_ ?_ _) | (with_reducible exact Nat.le_refl _) | omega | ((repeat (first | rewrite [World.size_alloc] | rewrite [World.size_setCell] | rewrite [World.size_drew])); omega) | (simp; omega) | (simp; done)))⟩
set_option maxHeartbeats 800000 in
theorem imSequenceValid_c (xs : List St) (v : Value) (w : World) (hx : RdS w v xs) :
    Calls Try.prog 105 #[v] w fun e w' => e = .returned (.bool (svalid xs)) ∧ Below w.heap.size w w' := by
  obtain ⟨A, cap, rfl, hn, hc, hcell⟩ := hx.open
  have HNO := Lib.hid (fun k hk => svalid_no (s := xs) k hk)
  have HALL := Lib.hid (fun h => svalid_all (s := xs) h)
  by_cases hl : (60 : Int) < xs.length
  · have HF : Hid (svalid xs = false) := by
      show _ = _
      cases hs : svalid xs with
      | false => rfl
      | true => have := svalid_len hs; omega
    go_enter Try.func105, Try.ntmps105
    go_wp2
    go_ret
    exact ⟨by rw [HF.out]; rfl, Below.refl _ _⟩
  go_enter Try.func105, Try.ntmps105
  go_wp2
  go_loopw [4, 10] (fun _ i wr => ∃ (k : Nat), k ≤ xs.length ∧ i = .int .i64 k ∧ Hid (∀ j (hj : j < xs.length), j < k → stOk xs[j] = true) ∧ Below w.heap.size w wr) (fun _ i _ => xs.length - (RowKit.intOf i).toNat)
  case atStart => exact ⟨0, by omega, rfl, fun j _ hj => absurd hj (Nat.not_lt_zero j), Below.refl _ _⟩
  case round =>
    obtain ⟨k, hk, rfl, hm, hb⟩ := hrel
    have hbs := hb.size
    by_cases hlt : k < xs.length
    · obtain ⟨b, off, rfl, hbl, hc1, hc2, hc3⟩ := hcell k hlt
      have hd1 := (hb.cell (p := ⟨b, off + k * 3, none⟩) hbl).trans hc1
      have hd2 := (hb.cell (p := ⟨b, off + k * 3 + 1, none⟩) hbl).trans hc2
      have hd3 := (hb.cell (p := ⟨b, off + k * 3 + 2, none⟩) hbl).trans hc3
      have HE : Hid (stOk xs[k] = stOk (xs[k].1, xs[k].2.1, xs[k].2.2)) := rfl
      have HN := Lib.hid (HNO.out k hlt)
      have HM : Hid (stOk xs[k] = true → ∀ j (hj : j < xs.length), j < k + 1 → stOk xs[j] = true) := by
        intro h j hj hjk
        rcases Nat.lt_succ_iff_lt_or_eq.1 hjk with h1 | h1
        · exact hm.out j hj h1
        · subst h1; exact h
      clear hc1 hc2 hc3 hcell
      generalize xs[k].1 = x1 at *
      generalize xs[k].2.1 = x2 at *
      generalize xs[k].2.2 = x3 at *
      rcases Bool.eq_false_or_eq_true (stOk (x1, x2, x3)) with hv | hv
      · go_wp2_with fail
        refine (stepValid_c x1 x2 x3 _).mono ?_
        rintro e w2 ⟨rfl, hb2⟩
        rw [hv]
        have hb3 : Below w.heap.size w w2 := (hb.alloc hbs _).trans (hb2.mono (by simp; omega))
        go_wp2
        go_roundw
        case rel => exact ⟨k + 1, by omega, by go_num, HM.out (by rw [HE.out]; exact hv), hb3⟩
        case measure => simp [RowKit.intOf]; omega
      · go_wp2_with fail
        refine (stepValid_c x1 x2 x3 _).mono ?_
        rintro e w2 ⟨rfl, hb2⟩
        rw [hv]
        have hb3 : Below w.heap.size w w2 := (hb.alloc hbs _).trans (hb2.mono (by simp; omega))
        have HF : Hid (svalid xs = false) := HN.out (by rw [HE.out]; exact hv)
        go_wp2
        go_ret
        exact ⟨by rw [HF.out]; rfl, hb3⟩
    · have hT : Hid (svalid xs = true) := by
        show _ = _
        rw [HALL.out (fun j hj => hm.out j hj (by omega)), decide_eq_true_eq]; omega
      go_wp2
      go_ret
      exact ⟨by rw [hT.out]; rfl, hb⟩
end Go.Proofs.Ytbgchjjaaelkbaa
namespace Go.PM
open Go.RowKit
def zS : Nat → UInt8 := fun _ => 0
abbrev zSA : Array Value := #[.int .u8 0, .int .u8 0, .int .u8 0, .int .u8 0, .int .u8 0, .int .u8 0, .int .u8 0, .int .u8 0, .int .u8 0, .int .u8 0, .int .u8 0]
theorem stC_zS : stC zS = zSA := by simp [stC, zS]
def stOf (s : ByteArray) : Nat → UInt8 := if stateV s then ofB s else zS
theorem stOf_yes {s : ByteArray} (h : stateV s = true) : stOf s = ofB s := if_pos h
theorem stOf_no {s : ByteArray} (h : stateV s = false) : stOf s = zS := if_neg (by rw [h]; decide)
def valL (l : List UInt8) (k : Nat) : Bool := (l.take k).all isV
theorem valL_succ (l : List UInt8) (k : Nat) (hk : k < l.length) : valL l (k + 1) = (valL l k && isV l[k]) := by
  unfold valL; rw [take_snoc l k hk, List.all_append]; simp
def mixS (s : ByteArray) (k : Nat) : Nat → UInt8 := fun p => if p < k then ofB s p else 0
theorem mixS_zero (s : ByteArray) : mixS s 0 = zS := by funext p; simp [mixS, zS]
theorem mixS_succ (s : ByteArray) (k : Nat) : updS (mixS s k) k (ofB s k) = mixS s (k + 1) := by
  funext p
  unfold updS mixS
  by_cases h : p = k
  · subst h; simp
  · by_cases h2 : p < k
    · simp [h, h2, Nat.lt_succ_of_lt h2]
    · have : ¬ p < k + 1 := by omega
      simp [h, h2, this]
theorem mixS_full (s : ByteArray) : stC (mixS s 11) = stC (ofB s) := stC_congr fun p hp => by simp [mixS, hp]
end Go.PM
namespace Go.Proofs.Ytbgchjjaaelkbaa
open Go.RowKit Go.PM

end Go.Proofs.Ytbgchjjaaelkbaa
namespace Go.PM
open Go.RowKit Go.Lib
def fc (s : ByteArray) : UInt8 := s.data.toList.getD 0 0
theorem fc_one {s : ByteArray} (h : s.size = 1) : s = ⟨#[fc s]⟩ := by
  obtain ⟨c, rfl⟩ := one_of_size h; rfl
/-- what a place or a digit reads in a state -/
def rdS (f : Nat → UInt8) (a : ByteArray) : UInt8 := if isC a then f (cidx a) else fc a
def okC (a : ByteArray) : Bool := isC a || isD a
theorem okC_size {a : ByteArray} (h : okC a = true) : a.size = 1 := by
  unfold okC at h; rw [Bool.or_eq_true] at h; exact h.elim isC_size isD_size
theorem rdS_cell {f : Nat → UInt8} {a : ByteArray} (h : isC a = true) : rdS f a = f (cidx a) := if_pos h
theorem rdS_digit {f : Nat → UInt8} {a : ByteArray} (h : isC a = false) : rdS f a = fc a := if_neg (by rw [h]; decide)
theorem cidx_nm {q : Nat} (h : q < 9) : isC (nm q) = true ∧ cidx (nm q) = q := by
  match q, h with
  | 0, _ | 1, _ | 2, _ | 3, _ | 4, _ | 5, _ | 6, _ | 7, _ | 8, _ => decide +kernel
theorem rdS_nm (f : Nat → UInt8) {q : Nat} (h : q < 9) : rdS f (nm q) = f q := by rw [rdS_cell (cidx_nm h).1, (cidx_nm h).2]
/-- the state behind a step -/
def swS (f : Nat → UInt8) (i j : Nat) : Nat → UInt8 := fun q => if q = i then f j else if q = j then f i else f q
def doS (x : St) (f : Nat → UInt8) : Nat → UInt8 := if x.1 = 1 then swS f (cidx x.2.1) (cidx x.2.2) else updS f (cidx x.2.1) (rdS f x.2.2)
theorem swS_spec (f : Nat → UInt8) (i j : Nat) : updS (updS f j (f i)) i (f j) = swS f i j := by
  funext q; unfold updS swS
  by_cases h1 : q = i <;> by_cases h2 : q = j <;> simp [h1, h2]
theorem swS_impl (f : Nat → UInt8) (i j : Nat) : updS (updS f i (f j)) j (f i) = swS f i j := by
  funext q; unfold updS swS
  by_cases h1 : q = i <;> by_cases h2 : q = j
  · subst h1; subst h2; simp
  · subst h1; simp [h2]
  · subst h2; simp [h1]
  · simp [h1, h2]
def runS (xs : List St) (k : Nat) (f : Nat → UInt8) : Nat → UInt8 := (xs.take k).foldl (fun g x => doS x g) f
theorem runS_zero (xs : List St) (f : Nat → UInt8) : runS xs 0 f = f := by simp [runS]
theorem runS_succ (xs : List St) (k : Nat) (hk : k < xs.length) (f : Nat → UInt8) : runS xs (k + 1) f = doS xs[k] (runS xs k f) := by
  unfold runS; rw [take_snoc xs k hk, List.foldl_append]; rfl
theorem stB_cell (f : Nat → UInt8) (k : Nat) (hk : k < 11) : (stB f).extract k (k + 1) = ⟨#[f k]⟩ := by
  have := extract_one (stB f) k hk
  rw [stB_at f k hk] at this
  exact this
theorem stB_put (f : Nat → UInt8) (k : Nat) (hk : k < 11) (c : UInt8) : (stB f).extract 0 k ++ ⟨#[c]⟩ ++ (stB f).extract (k + 1) 11 = stB (updS f k c) := by
  match k, hk with
  | 0, _ | 1, _ | 2, _ | 3, _ | 4, _ | 5, _ | 6, _ | 7, _ | 8, _ | 9, _ | 10, _ => (apply ByteArray.ext; simp [stB, updS, ByteArray.data_append, ByteArray.data_extract])
/-- the state behind moves at once -/
def aoS (t : Nat → ByteArray) (f : Nat → UInt8) : Nat → UInt8 := fun q => if q < 9 then rdS f (srcT t q) else f q
theorem aoS_nil (f : Nat → UInt8) : aoS (tabOf []) f = f := by
  funext q; unfold aoS
  by_cases h : q < 9
  · rw [if_pos h, tabOf_nil, srcT, if_pos rfl, rdS_nm f h]
  · rw [if_neg h]
theorem aoS_snoc (xs : List Mv) (x : Mv) (f : Nat → UInt8) (h : MV (xs ++ [x])) : ∀ q, q < 11 → aoS (tabOf (xs ++ [x])) f q = updS (aoS (tabOf xs) f) (cidx x.1) (rdS f x.2) q := by
  intro q _
  obtain ⟨_, h2, h3⟩ := (MV_snoc xs x).1 h
  unfold mok at h2; rw [Bool.and_eq_true] at h2
  have hp := pidx_spec h2.1
  have hc := isP_isC h2.1
  have hx2 : x.2 ≠ ⟨#[]⟩ := by
    intro e
    have := isS_size h2.2
    rw [e] at this; cases this
  unfold aoS updS
  show (if q < 9 then rdS f (srcT (tabOf (xs ++ [x])) q) else f q) = if q = cidx x.1 then rdS f x.2 else (if q < 9 then rdS f (srcT (tabOf xs) q) else f q)
  by_cases hq : q < 9
  · rw [if_pos hq, if_pos hq]
    have ht := tabOf_snoc xs x h2.1 h3 q hq
    unfold srcT
    rw [ht]
    unfold upd
    rw [hc.2]
    by_cases hqp : q = pidx x.1
    · rw [if_pos hqp, if_pos hqp, if_neg hx2]
    · rw [if_neg hqp, if_neg hqp]
  · rw [if_neg hq, if_neg hq, hc.2, if_neg (by omega)]
theorem isS_okC {s : ByteArray} (h : isS s = true) : okC s = true := by
  unfold isS at h; rw [Bool.or_eq_true] at h
  unfold okC; rw [Bool.or_eq_true]
  exact h.imp (fun h => (isP_isC h).1) id
theorem stOk_move {a b : ByteArray} (h : stOk (0, a, b) = true) : isC a = true ∧ okC b = true := by
  simpa [stOk, okC] using h
theorem stOk_swap {a b : ByteArray} (h : stOk (1, a, b) = true) : isC a = true ∧ isC b = true := by
  simpa [stOk] using h
theorem stOk_kind {k : Int} {a b : ByteArray} (h : stOk (k, a, b) = true) : k = 0 ∨ k = 1 := by
  unfold stOk at h; rw [Bool.or_eq_true] at h
  rcases h with h | h
  · exact .inl (by rw [Bool.and_eq_true] at h; simpa using h.1)
  · exact .inr (by rw [Bool.and_eq_true] at h; simpa using h.1)
def stateS (f : Nat → UInt8) : Prop := ∀ q, q < 11 → isV (f q) = true
theorem stateV_of {s : ByteArray} (h : stateV s = true) : s.size = 11 ∧ stB (ofB s) = s := by
  unfold stateV at h; rw [Bool.and_eq_true] at h
  have h2 : s.size = 11 := by simpa using h.2
  exact ⟨h2, ofB_stB h2⟩
end Go.PM
namespace Go.Proofs.Ytbgchjjaaelkbaa
open Go.RowKit Go.PM

theorem read_c (f : Nat → UInt8) (a : ByteArray) (h : okC a = true) (w : World) :
    Calls Try.prog 140 #[stV f, .string a] w fun e w' => e = .returned (.int .u8 (rdS f a).toNat) ∧ Below w.heap.size w w' := by
  rcases Bool.eq_false_or_eq_true (isC a) with hc | hc
  · have hlt := cidx_lt hc
    have hr := rdS_cell (f := f) hc
    have hci := fun W => cellOf_yes a hc W
    have hA := At.new w 117 (stC f)
    have hpc := (hA.cell _).trans (stC_at f _ hlt)
    have HR := Lib.hid hr
    have i0 : (0 : Int) ≤ (cidx a : Int) := by omega
    have i1 : (cidx a : Int) < 11 := by omega
    clear h hc hr
    generalize cidx a = k at *
    go_enter Try.func140, Try.ntmps140
    go_wp2_with (go_at_call 149; refine (hci _).mono ?_; rintro e w' ⟨rfl, rfl⟩)
    go_ret
    exact ⟨by rw [HR.out]; rfl, by (repeat' (first | (with_reducible exact Below.refl _ _) | (with_reducible assumption) | (with_reducible refine Below.alloc ?_ ?_ _) | (with_reducible refine Below.drew ?_) | (with_reducible refine Below.setCell ?_ ?_ _) | (with_reducible exact Nat.le_refl _) | omega | ((repeat (first | rewrite [World.size_alloc] | rewrite [World.size_setCell] | rewrite [World.size_drew])); omega) | (simp; omega) | (simp; done)))⟩
  · have hd : isD a = true := by unfold okC at h; rw [hc, Bool.false_or] at h; exact h
    have hr := rdS_digit (f := f) hc
    have hsz := isD_size hd
    have hci := fun W => cellOf_no a hc W
    obtain ⟨c, rfl⟩ := one_of_size hsz
    have HR : Hid (rdS f ⟨#[c]⟩ = c) := hr
    clear h hc hr hd hsz
    go_enter Try.func140, Try.ntmps140
    go_wp2_with (go_at_call 149; refine (hci _).mono ?_; rintro e w' ⟨rfl, rfl⟩)
    go_ret
    exact ⟨by rw [HR.out]; rfl, by (repeat' (first | (with_reducible exact Below.refl _ _) | (with_reducible assumption) | (with_reducible refine Below.alloc ?_ ?_ _) | (with_reducible refine Below.drew ?_) | (with_reducible refine Below.setCell ?_ ?_ _) | (with_reducible exact Nat.le_refl _) | omega | ((repeat (first | rewrite [World.size_alloc] | rewrite [World.size_setCell] | rewrite [World.size_drew])); omega) | (simp; omega) | (simp; done)))⟩
/-- a whole array is read in a quiet region: the step -/
theorem row_step {P : Program} {ops : Array Oper} {C : World → Prop} {Q : Act → Prop} {a : Act} {o : Oper} {rest : List Oper} (hw : Region.wanted o (yielded ops a.tmps) = true) (ty : TypeId) (x : Operand) (ho : o.op = .load ty x) (b : Nat) (t : TypeId) (cs : Array Value)
    (hx : a.eval x = .pointer (some ⟨b, 0, none⟩)) (hC : ∀ W, C W → At W b t cs) (k : Nat) (e : TypeId) (hu : P.underlying ty = some (.array k e)) (hi : (P.info? ty).map (·.size) = some cs.size) (h : wpQuiet P ops C Q rest (a.put o.dst (.agg cs))) : wpQuiet P ops C Q (o :: rest) a :=
  BigFrame.wpQuiet_want hw fun _ hK => quiet_row ty x ho b t cs hx hC k e hu hi (hK _ h)

set_option maxRecDepth 100000 in
set_option maxHeartbeats 800000 in
theorem moved_c (f : Nat → UInt8) (k : Int) (a b : ByteArray) (h1 : isC a = true) (h2 : okC b = true) (w : World) :
    Calls Try.prog 138 #[stV f, .agg #[.int .i64 k, .string a, .string b]] w fun e w' => e = .returned (stV (updS f (cidx a) (rdS f b))) ∧ Below w.heap.size w w' := by
  have HR : ∀ (tmps : Array Value) (W : World) (g : Nat → UInt8) (b : Nat), At W b 117 (stC g) → tmps.getD 4 undef = .pointer (some ⟨b, 0, none⟩) →
      (results Try.f138 tmps).run Try.prog W = .ok (stV g) W := fun tmps W g b hA h4 =>
    results_row1 Try.results138 tmps W _ _ _ h4 hA 11 5 Try.underlying117 (by kernel_rfl)
  have hci := fun W => cellOf_yes a h1 W
  have hrd := fun W => read_c f b h2 W
  have hlt := cidx_lt h1
  have hst := stC_set f (cidx a) hlt (rdS f b)
  have hpc := stC_at f (cidx a) hlt
  have HST := Lib.hid hst
  clear h1 h2 hst
  have i0 : (0 : Int) ≤ (cidx a : Int) := by omega
  have i1 : (cidx a : Int) < 11 := by omega
  generalize rdS f b = v at *
  generalize cidx a = i at *
  generalize updS f i v = g at *
  obtain ⟨W0, hW0⟩ : ∃ W0 : World, W0 = ((w.alloc (.cells (stC f) 117)).alloc (.cells #[.int .i64 k, .string a, .string b] 53)).alloc (.cells zSA 117) := ⟨_, rfl⟩
  have hB0 : Below w.heap.size w W0 := by rw [hW0]; (repeat' (first | (with_reducible exact Below.refl _ _) | (with_reducible assumption) | (with_reducible refine Below.alloc ?_ ?_ _) | (with_reducible refine Below.drew ?_) | (with_reducible refine Below.setCell ?_ ?_ _) | (with_reducible exact Nat.le_refl _) | omega | ((repeat (first | rewrite [World.size_alloc] | rewrite [World.size_setCell] | rewrite [World.size_drew])); omega) | (simp; omega) | (simp; done)))
  have hA0 : At W0 w.heap.size 117 (stC f) := by rw [hW0]; exact ((At.new _ _ _).alloc _).alloc _
  have hA1 : At W0 (w.heap.size + 1) 53 #[.int .i64 k, .string a, .string b] := by
    rw [hW0]; have := At.new (w.alloc (.cells (stC f) 117)) 53 #[.int .i64 k, .string a, .string b]
    rw [World.size_alloc] at this; exact this.alloc _
  have hA2 : At W0 (w.heap.size + 2) 117 zSA := by
    rw [hW0]; have := At.new ((w.alloc (.cells (stC f) 117)).alloc (.cells #[.int .i64 k, .string a, .string b] 53)) 117 zSA
    rwa [World.size_alloc, World.size_alloc] at this
  have q1 : W0.cell? ⟨w.heap.size + 1, 1, none⟩ = some (.string a) := hA1.cell 1
  have q2 : W0.cell? ⟨w.heap.size + 1, 2, none⟩ = some (.string b) := hA1.cell 2
  go_enter Try.func138, Try.ntmps138
  go_wp2_with fail
  rw [← hW0]
  refine (hci _).mono ?_
  rintro e w' ⟨rfl, rfl⟩
  clear hW0
  go_wp2_with (refine ld_row rfl 117 (.tmp 2) rfl w.heap.size 117 (stC f) hA0 (by rfl) 11 5 Try.underlying117 (by kernel_rfl) ?_)
  refine (hrd _).mono ?_
  rintro e W1 ⟨rfl, hb1⟩
  have k0 := hA0.keep hb1
  have k2 := hA2.keep hb1
  have kB := hB0.trans (hb1.mono hB0.size)
  have kc := (k0.cell i).trans hpc
  have kf := k0.frozen i
  have kl := k0.lt
  have m0 := k0.set i (.int .u8 v.toNat)
  rw [HST.out] at m0
  have m2 := k2.far (p := ⟨w.heap.size, i, none⟩) (by simp) (.int .u8 v.toNat)
  clear k0 k2 hA0 hA1 hA2 q1 q2
  go_wp2_with (first | (refine ld_row rfl 117 (.tmp 2) rfl w.heap.size 117 (stC g) m0 (by rfl) 11 5 Try.underlying117 (by kernel_rfl) ?_) | (refine st_row rfl 117 (.tmp 4) (.tmp 21) rfl rfl (w.heap.size + 2) 117 zSA (stC g) m2 (by rfl) (by rfl) (by kernel_rfl) rfl (stC_one _) ?_; intro W5 hA5 hg5))
  exact bodyPost_ret (v := stV g) (HR _ _ g (w.heap.size + 2) hA5 rfl) rfl ⟨rfl, (kB.setCell (Nat.le_refl _) _).trans (below_grown hg5 (by simp; omega) (fun g hg => by cases hg; omega))⟩
set_option maxRecDepth 100000 in
set_option maxHeartbeats 1600000 in
theorem swapped_c (f : Nat → UInt8) (k : Int) (a b : ByteArray) (h1 : isC a = true) (h2 : isC b = true) (w : World) :
    Calls Try.prog 139 #[stV f, .agg #[.int .i64 k, .string a, .string b]] w fun e w' => e = .returned (stV (swS f (cidx a) (cidx b))) ∧ Below w.heap.size w w' := by
  have HR : ∀ (tmps : Array Value) (W : World) (g : Nat → UInt8) (b : Nat), At W b 117 (stC g) → tmps.getD 4 undef = .pointer (some ⟨b, 0, none⟩) →
      (results Try.f139 tmps).run Try.prog W = .ok (stV g) W := fun tmps W g b hA h4 =>
    results_row1 Try.results139 tmps W _ _ _ h4 hA 11 5 Try.underlying117 (by kernel_rfl)
  have hci := fun W => cellOf_yes a h1 W
  have hcj := fun W => cellOf_yes b h2 W
  have hli := cidx_lt h1
  have hlj := cidx_lt h2
  have hsi := stC_set f (cidx a) hli (f (cidx b))
  have hsj := stC_set (updS f (cidx a) (f (cidx b))) (cidx b) hlj (f (cidx a))
  rw [swS_impl] at hsj
  have hpi := stC_at f (cidx a) hli
  have hpj := stC_at f (cidx b) hlj
  have hpj2 := stC_at (updS f (cidx a) (f (cidx b))) (cidx b) hlj
  have HSI := Lib.hid hsi
  have HSJ := Lib.hid hsj
  clear h1 h2 hsi hsj
  have i0 : (0 : Int) ≤ (cidx a : Int) := by omega
  have i1 : (cidx a : Int) < 11 := by omega
  have i2 : (0 : Int) ≤ (cidx b : Int) := by omega
  have i3 : (cidx b : Int) < 11 := by omega
  generalize cidx a = i at *
  generalize cidx b = j at *
  generalize swS f i j = g at *
  generalize updS f i (f j) = g1 at *
  generalize hui : f i = u at *
  generalize huj : f j = v at *
  clear hui huj
  obtain ⟨W0, hW0⟩ : ∃ W0 : World, W0 = ((w.alloc (.cells (stC f) 117)).alloc (.cells #[.int .i64 k, .string a, .string b] 53)).alloc (.cells zSA 117) := ⟨_, rfl⟩
  have hB0 : Below w.heap.size w W0 := by rw [hW0]; (repeat' (first | (with_reducible exact Below.refl _ _) | (with_reducible assumption) | (with_reducible refine Below.alloc ?_ ?_ _) | (with_reducible refine Below.drew ?_) | (with_reducible refine Below.setCell ?_ ?_ _) | (with_reducible exact Nat.le_refl _) | omega | ((repeat (first | rewrite [World.size_alloc] | rewrite [World.size_setCell] | rewrite [World.size_drew])); omega) | (simp; omega) | (simp; done)))
  have hA0 : At W0 w.heap.size 117 (stC f) := by rw [hW0]; exact ((At.new _ _ _).alloc _).alloc _
  have hA1 : At W0 (w.heap.size + 1) 53 #[.int .i64 k, .string a, .string b] := by
    rw [hW0]; have := At.new (w.alloc (.cells (stC f) 117)) 53 #[.int .i64 k, .string a, .string b]
    rw [World.size_alloc] at this; exact this.alloc _
  have hA2 : At W0 (w.heap.size + 2) 117 zSA := by
    rw [hW0]; have := At.new ((w.alloc (.cells (stC f) 117)).alloc (.cells #[.int .i64 k, .string a, .string b] 53)) 117 zSA
    rwa [World.size_alloc, World.size_alloc] at this
  have q1 : W0.cell? ⟨w.heap.size + 1, 1, none⟩ = some (.string a) := hA1.cell 1
  have q2 : W0.cell? ⟨w.heap.size + 1, 2, none⟩ = some (.string b) := hA1.cell 2
  have p1 := (hA0.cell i).trans hpi
  have p2 := (hA0.cell j).trans hpj
  have f1 := hA0.frozen i
  have f2 := hA0.frozen j
  have hlt0 := hA0.lt
  have m1 := hA0.set i (.int .u8 v.toNat)
  rw [HSI.out] at m1
  have p3 := (m1.cell j).trans hpj2
  have f3 := m1.frozen j
  have m2 : At ((W0.setCell ⟨w.heap.size, i, none⟩ (.int .u8 v.toNat)).setCell ⟨w.heap.size, j, none⟩ (.int .u8 u.toNat)).drew w.heap.size 117 (stC g) := by
    have := m1.set j (.int .u8 u.toNat)
    rw [HSJ.out] at this
    exact this
  have n2 : At ((W0.setCell ⟨w.heap.size, i, none⟩ (.int .u8 v.toNat)).setCell ⟨w.heap.size, j, none⟩ (.int .u8 u.toNat)).drew (w.heap.size + 2) 117 zSA :=
    (hA2.far (p := ⟨w.heap.size, i, none⟩) (by simp) _).far (by simp) _
  clear hA1 hA2 hA0 m1
  go_enter Try.func139, Try.ntmps139
  go_wp2_with fail
  rw [← hW0]
  refine (hci _).mono ?_
  rintro e w' ⟨rfl, rfl⟩
  clear hW0
  go_wp2_with (go_at_call 149; refine (hcj _).mono ?_; rintro e w' ⟨rfl, rfl⟩)
  go_region
  all_goals
    go_wp2_with (first | (refine ld_row rfl 117 (.tmp 2) rfl w.heap.size 117 (stC g) m2 (by rfl) 11 5 Try.underlying117 (by kernel_rfl) ?_) | (refine st_row rfl 117 (.tmp 4) (.tmp 33) rfl rfl (w.heap.size + 2) 117 zSA (stC g) n2 (by rfl) (by rfl) (by kernel_rfl) rfl (stC_one _) ?_; intro W5 hA5 hg5))
    exact bodyPost_ret (v := stV g) (HR _ _ g (w.heap.size + 2) hA5 rfl) rfl ⟨rfl, ((hB0.setCell (Nat.le_refl _) _).setCell (Nat.le_refl _) _).drew.trans (below_grown hg5 (by simp; omega) (fun g hg => by cases hg; omega))⟩
end Go.Proofs.Ytbgchjjaaelkbaa
namespace Go.PM
open Go.RowKit
section
variable {P : Program} {ops : Array Oper} {rest : List Oper} {o : Oper} {a : Act} {w : World} {Q : Exit → Act → World → Prop}
def bytesC (s : ByteArray) : Array Value := s.data.map fun b => .int .u8 b.toNat
theorem bytesC_size (s : ByteArray) : (bytesC s).size = s.size := by simp [bytesC]
/-- a string is copied over a whole row -/
theorem run_copy_text (dT sT ty elem : TypeId) (hu : P.underlying dT = some (.slice elem)) (hsz : (P.info? elem).map (·.size) = some 1) (b : Nat) (t : TypeId) (cur : Array Value) (hA : At w b t cur) (cap : Nat) (s : ByteArray) (hcur : cur.size = s.size) :
    (Builtin.copy_ #[dT, sT] ty #[.slice (some ⟨b, 0, none⟩) s.size cap, .string s]).run P w = .ok (goInt s.size) (w.setRow b (bytesC s)) := by
  have h1 : ∀ v ∈ (bytesC s).toList, v.oneCell' = true := by
    intro v hv
    simp [bytesC] at hv
    obtain ⟨x, _, rfl⟩ := hv
    rfl
  have hst := run_storeCells_at P b 0 t (bytesC s).toList 0 cur w hA (by simp [bytesC_size, hcur]) h1
  have e : (cur.toList.take (0 + 0) ++ (bytesC s).toList ++ cur.toList.drop (0 + 0 + (bytesC s).toList.length)).toArray = bytesC s := by
    have : cur.toList.drop (0 + 0 + (bytesC s).toList.length) = [] := by
      rw [List.drop_eq_nil_iff]; simp [bytesC_size, hcur]
    rw [this]; simp
  cases hq : P.info? elem with
  | none => simp [hq] at hsz
  | some i =>
    have hi : i.size = 1 := by simpa [hq] using hsz
    rw [e] at hst
    have hx : List.take s.size (List.map (fun b : UInt8 => Value.int .u8 (b.toNat : Int)) s.data.toList) = (bytesC s).toList := by
      rw [List.take_of_length_le (by simp)]
      simp [bytesC]
    unfold Builtin.copy_
    simp [run_underlying hu w, Builtin.lenOf, Builtin.firstCells, sizeOf, typeInfo, hq]
    rw [hx, hst]
    rfl
theorem cp_text (hgd : o.guard = none) (d s : Operand) (dT sT : TypeId) (ho : o.op = .call { callee := .builtin .copy, args := #[d, s], argTypes := #[dT, sT] }) (elem : TypeId) (hu : P.underlying dT = some (.slice elem)) (hsz : (P.info? elem).map (·.size) = some 1)
    (b : Nat) (t : TypeId) (cur : Array Value) (hA : At w b t cur) (cap : Nat) (x : ByteArray) (hd : a.eval d = .slice (some ⟨b, 0, none⟩) x.size cap) (hs : a.eval s = .string x) (hcur : cur.size = x.size)
    (h : ∀ w', At w' b t (bytesC x) → w.grownBy w' (some b) → wpList P ops Q rest (a.put o.dst (goInt x.size)) w') : wpList P ops Q (o :: rest) a w := by
  refine wpList_plain hgd fun K hK => ?_
  have hrun := run_copy_text (P := P) dT sT o.type elem hu hsz b t cur hA cap x hcur
  unfold Oper.wp
  simp [execOp, ho, resolve, invoke, builtin, hd, hs, hrun, Result.andThen]
  exact hK _ _ (h _ (At.setRow hA _) (grown_setRow _ _ _))
end
end Go.PM
namespace Go.PM
open Go.RowKit
def nmS : Nat → UInt8 := fun q => cellsL.getD q 0
theorem bytes_nmS : bytesC cellsB = stC nmS := by simp [bytesC, cellsB, stC, nmS, cellsL]
def wspS (f g : Nat → UInt8) : Nat → UInt8 := fun q => if q < 9 then f q else g q
end Go.PM
namespace Go.Proofs.Ytbgchjjaaelkbaa
open Go.RowKit Go.PM

set_option maxRecDepth 100000 in
set_option maxHeartbeats 800000 in
theorem stateOfNames_c (w : World) : Calls Try.prog 106 #[] w fun e w' => e = .returned (stV nmS) ∧ Below w.heap.size w w' := by
  have HR : ∀ (tmps : Array Value) (W : World) (g : Nat → UInt8) (b : Nat), At W b 117 (stC g) → tmps.getD 0 undef = .pointer (some ⟨b, 0, none⟩) →
      (results Try.f106 tmps).run Try.prog W = .ok (stV g) W := fun tmps W g b hA h4 =>
    results_row1 Try.results106 tmps W _ _ _ h4 hA 11 5 Try.underlying117 (by kernel_rfl)
  have hA0 : At ((w.alloc (.cells zSA 117)).alloc (.cells zSA 117)) w.heap.size 117 zSA := (At.new _ _ _).alloc _
  have hA1 : At ((w.alloc (.cells zSA 117)).alloc (.cells zSA 117)) (w.heap.size + 1) 117 zSA := by
    have := At.new (w.alloc (.cells zSA 117)) 117 zSA
    rwa [World.size_alloc] at this
  go_enter Try.func106, Try.ntmps106
  go_wp2_with (first | (refine cp_text rfl (.tmp 2) (.const (.string ⟨#[97, 98, 99, 100, 101, 102, 65, 66, 67, 116, 117]⟩)) 22 9 rfl 5 Try.underlying22 (by kernel_rfl) (w.heap.size + 1) 117 zSA hA1 11 ⟨#[97, 98, 99, 100, 101, 102, 65, 66, 67, 116, 117]⟩ (by rfl) (by rfl) rfl ?_; intro W1 hB1 hg1; rw [show bytesC ⟨#[97, 98, 99, 100, 101, 102, 65, 66, 67, 116, 117]⟩ = stC nmS from bytes_nmS] at hB1; have hB0 := hA0.grown hg1 (by simp); have bel1 : Below w.heap.size w W1 := Below.trans (by (repeat' (first | (with_reducible exact Below.refl _ _) | (with_reducible assumption) | (with_reducible refine Below.alloc ?_ ?_ _) | (with_reducible refine Below.drew ?_) | (with_reducible refine Below.setCell ?_ ?_ _) | (with_reducible exact Nat.le_refl _) | omega | ((repeat (first | rewrite [World.size_alloc] | rewrite [World.size_setCell] | rewrite [World.size_drew])); omega) | (simp; omega) | (simp; done)))) (below_grown hg1 (by simp; omega) (fun g hg => by cases hg; omega)); have hs1 := bel1.size) | (refine ld_row rfl 117 (.tmp 1) rfl (w.heap.size + 1) 117 (stC nmS) hB1 (by rfl) 11 5 Try.underlying117 (by kernel_rfl) ?_) | (refine st_row rfl 117 (.tmp 0) (.tmp 4) rfl rfl w.heap.size 117 zSA (stC nmS) hB0 (by rfl) (by rfl) (by kernel_rfl) rfl (stC_one _) ?_; intro W5 hA5 hg5))
  exact bodyPost_ret (v := stV nmS) (HR _ _ nmS w.heap.size hA5 rfl) rfl ⟨rfl, bel1.trans (below_grown hg5 hs1 (fun g hg => by cases hg; omega))⟩
set_option maxRecDepth 100000 in
set_option maxHeartbeats 800000 in
theorem withSpares_c (f g : Nat → UInt8) (w : World) : Calls Try.prog 108 #[stV f, stV g] w fun e w' => e = .returned (stV (wspS f g)) ∧ Below w.heap.size w w' := by
  have HR : ∀ (tmps : Array Value) (W : World) (g : Nat → UInt8) (b : Nat), At W b 117 (stC g) → tmps.getD 4 undef = .pointer (some ⟨b, 0, none⟩) →
      (results Try.f108 tmps).run Try.prog W = .ok (stV g) W := fun tmps W g b hA h4 =>
    results_row1 Try.results108 tmps W _ _ _ h4 hA 11 5 Try.underlying117 (by kernel_rfl)
  obtain ⟨W0, hW0⟩ : ∃ W0 : World, W0 = ((w.alloc (.cells (stC f) 117)).alloc (.cells (stC g) 117)).alloc (.cells zSA 117) := ⟨_, rfl⟩
  have hB0 : Below w.heap.size w W0 := by rw [hW0]; (repeat' (first | (with_reducible exact Below.refl _ _) | (with_reducible assumption) | (with_reducible refine Below.alloc ?_ ?_ _) | (with_reducible refine Below.drew ?_) | (with_reducible refine Below.setCell ?_ ?_ _) | (with_reducible exact Nat.le_refl _) | omega | ((repeat (first | rewrite [World.size_alloc] | rewrite [World.size_setCell] | rewrite [World.size_drew])); omega) | (simp; omega) | (simp; done)))
  have hA0 : At W0 w.heap.size 117 (stC f) := by rw [hW0]; exact ((At.new _ _ _).alloc _).alloc _
  have hA1 : At W0 (w.heap.size + 1) 117 (stC g) := by
    rw [hW0]; have := At.new (w.alloc (.cells (stC f) 117)) 117 (stC g)
    rw [World.size_alloc] at this; exact this.alloc _
  have hA2 : At W0 (w.heap.size + 2) 117 zSA := by
    rw [hW0]; have := At.new ((w.alloc (.cells (stC f) 117)).alloc (.cells (stC g) 117)) 117 zSA
    rwa [World.size_alloc, World.size_alloc] at this
  have hsp : (splice (stC f).toList 9 [.int .u8 (g 9).toNat, .int .u8 (g 10).toNat]).toArray = stC (wspS f g) := by
    simp [splice, stC, wspS]
  have HSP := Lib.hid hsp
  clear hsp
  go_enter Try.func108, Try.ntmps108
  go_wp2
  rw [← hW0]
  clear hW0
  refine region_tail (C := fun w' => w' = W0.drew) 2 (by kernel_rfl) (by kernel_rfl) rfl ?_
  simp only [List.take_succ_cons, List.take_zero, List.drop_succ_cons, List.drop_zero]
  repeat (go_big_quiet_step (fail))
  refine wpQuiet_nil ?_
  intro w' hw'
  subst hw'
  have hA0' : At W0.drew w.heap.size 117 (stC f) := hA0
  have hA2' : At W0.drew (w.heap.size + 2) 117 zSA := hA2
  have c9 : W0.drew.cell? ⟨w.heap.size + 1, 9, none⟩ = some (.int .u8 (g 9).toNat) := hA1.cell 9
  have c10 : W0.drew.cell? ⟨w.heap.size + 1, 10, none⟩ = some (.int .u8 (g 10).toNat) := hA1.cell 10
  have hBd : Below w.heap.size w W0.drew := hB0.drew
  have hsrc : ∀ (j : Nat) (v : Value), [Value.int .u8 (g 9).toNat, Value.int .u8 (g 10).toNat][j]? = some v → W0.drew.cell? ((⟨w.heap.size + 1, 9, none⟩ : Addr).add j) = some v := fun j v hj => by
    match j, hj with
    | 0, hj => simp at hj; subst hj; exact c9
    | 1, hj => simp at hj; subst hj; exact c10
  refine wpList_copy_own rfl (.tmp 5) (.tmp 6) 22 22 rfl 5 Try.underlying22 (by kernel_rfl) w.heap.size 9 2 2 ⟨w.heap.size + 1, 9, none⟩ 2 2 (by rfl) (by rfl) (stC f) 117 hA0' [.int .u8 (g 9).toNat, .int .u8 (g 10).toNat] rfl
    hsrc (by simp [stC]) (by intro v hv; simp at hv; rcases hv with rfl | rfl <;> rfl) ?_
  have e2 : ((stC f).toList.take 9 ++ ([Value.int .u8 (g 9).toNat, Value.int .u8 (g 10).toNat] ++ (stC f).toList.drop (9 + [Value.int .u8 (g 9).toNat, Value.int .u8 (g 10).toNat].length))).toArray = stC (wspS f g) := HSP.out
  rw [e2]
  have hA3 : At (W0.drew.setRow w.heap.size (stC (wspS f g))) w.heap.size 117 (stC (wspS f g)) := At.setRow hA0' _
  have hg3 := grown_setRow W0.drew w.heap.size (stC (wspS f g))
  have hA4 := hA2'.grown hg3 (by simp)
  have hB3 : Below w.heap.size w (W0.drew.setRow w.heap.size (stC (wspS f g))) := hBd.trans (below_grown hg3 hBd.size (fun g hg => by cases hg; omega))
  clear hg3 hA2' hA0' e2 c9 c10 hsrc hBd HSP
  generalize W0.drew.setRow w.heap.size (stC (wspS f g)) = W3 at *
  generalize hx : wspS f g = x at *
  have HX := Lib.hid hx
  clear hx
  have hs3 := hB3.size
  go_wp2_with (first | (refine ld_row rfl 117 (.tmp 2) rfl w.heap.size 117 (stC x) hA3 (by rfl) 11 5 Try.underlying117 (by kernel_rfl) ?_) | (refine st_row rfl 117 (.tmp 4) (.tmp 8) rfl rfl (w.heap.size + 2) 117 zSA (stC x) hA4 (by rfl) (by rfl) (by kernel_rfl) rfl (stC_one _) ?_; intro W5 hA5 hg5))
  exact bodyPost_ret (v := stV x) (HR _ _ x (w.heap.size + 2) hA5 rfl) rfl ⟨by rw [HX.out], hB3.trans (below_grown hg5 hs3 (fun g hg => by cases hg; omega))⟩
end Go.Proofs.Ytbgchjjaaelkbaa
namespace Go.Proofs.Ytbgchjjaaelkbaa
open Go.RowKit Go.PM

abbrev fnA : Array Value := #[.func (.func 138) #[] #[], .func (.func 139) #[] #[]]
set_option maxRecDepth 100000 in
set_option maxHeartbeats 1600000 in
theorem inOrder_c (xs : List St) (hv : ∀ k (hk : k < xs.length), stOk xs[k] = true) (v : Value) (f : Nat → UInt8) (w : World) (hx : RdS w v xs) :
    Calls Try.prog 107 #[stV f, v] w fun e w' => e = .returned (stV (runS xs xs.length f)) ∧ Below w.heap.size w w' := by
  have HR : ∀ (tmps : Array Value) (W : World) (g : Nat → UInt8) (b : Nat), At W b 117 (stC g) → tmps.getD 4 undef = .pointer (some ⟨b, 0, none⟩) →
      (results Try.f107 tmps).run Try.prog W = .ok (stV g) W := fun tmps W g b hA h4 =>
    results_row1 Try.results107 tmps W _ _ _ h4 hA 11 5 Try.underlying117 (by kernel_rfl)
  obtain ⟨A, cap, rfl, hn, hc, hcell⟩ := hx.open
  have HV := Lib.hid hv
  clear hv
  have HRS := Lib.hid (fun k hk => runS_succ xs k hk f)
  have HZ := Lib.hid (runS_zero xs f)
  go_enter Try.func107, Try.ntmps107
  go_wp2
  have hw0 : ∃ W0 : World, W0 = ((w.alloc (.cells (stC f) 117)).alloc (.cells zSA 117)).alloc (.cells fnA 149) := ⟨_, rfl⟩
  obtain ⟨W0, hW0⟩ := hw0
  have hB0 : Below w.heap.size w W0 := by rw [hW0]; (repeat' (first | (with_reducible exact Below.refl _ _) | (with_reducible assumption) | (with_reducible refine Below.alloc ?_ ?_ _) | (with_reducible refine Below.drew ?_) | (with_reducible refine Below.setCell ?_ ?_ _) | (with_reducible exact Nat.le_refl _) | omega | ((repeat (first | rewrite [World.size_alloc] | rewrite [World.size_setCell] | rewrite [World.size_drew])); omega) | (simp; omega) | (simp; done)))
  have hA0 : At W0 w.heap.size 117 (stC f) := by rw [hW0]; exact ((At.new _ _ _).alloc _).alloc _
  have hA1 : At W0 (w.heap.size + 1) 117 zSA := by
    rw [hW0]; have := At.new (w.alloc (.cells (stC f) 117)) 117 zSA
    rw [World.size_alloc] at this; exact this.alloc _
  have hA2 : At W0 (w.heap.size + 1 + 1) 149 fnA := by
    rw [hW0]; have := At.new ((w.alloc (.cells (stC f) 117)).alloc (.cells zSA 117)) 149 fnA
    rwa [World.size_alloc, World.size_alloc] at this
  rw [← hW0]
  clear hW0
  go_loopw [7, 11] (fun _ i wr => ∃ (k : Nat), k ≤ xs.length ∧ i = .int .i64 k ∧ Below w.heap.size w wr ∧ At wr w.heap.size 117 (stC (runS xs k f)) ∧ At wr (w.heap.size + 1) 117 zSA ∧ At wr (w.heap.size + 1 + 1) 149 fnA) (fun _ i _ => xs.length - (intOf i).toNat)
  case atStart => exact ⟨0, by omega, rfl, hB0, by rw [HZ.out]; exact hA0, hA1, hA2⟩
  case round =>
    clear hB0 hA0 hA1 hA2
    obtain ⟨k, hk, rfl, hb, hA0, hA1, hA2⟩ := hrel
    have hbs := hb.size
    by_cases hlt : k < xs.length
    · obtain ⟨b, off, rfl, hbl, hc1, hc2, hc3⟩ := hcell k hlt
      have hd1 := (hb.cell (p := ⟨b, off + k * 3, none⟩) hbl).trans hc1
      have hd2 := (hb.cell (p := ⟨b, off + k * 3 + 1, none⟩) hbl).trans hc2
      have hd3 := (hb.cell (p := ⟨b, off + k * 3 + 2, none⟩) hbl).trans hc3
      have hok : stOk (xs[k].1, xs[k].2.1, xs[k].2.2) = true := HV.out k hlt
      have hrs : runS xs (k + 1) f = doS (xs[k].1, xs[k].2.1, xs[k].2.2) (runS xs k f) := HRS.out k hlt
      clear hc1 hc2 hc3 hcell
      generalize xs[k].1 = x1 at *
      generalize xs[k].2.1 = x2 at *
      generalize xs[k].2.2 = x3 at *
      generalize runS xs k f = g at *
      have HRK := Lib.hid hrs
      clear hrs
      have l1 := hA1.lt
      have l2 := hA2.lt
      rcases stOk_kind hok with rfl | rfl
      · obtain ⟨o1, o2⟩ := stOk_move hok
        have hcall := fun W => moved_c g 0 x2 x3 o1 o2 W
        have HD : Hid (doS (0, x2, x3) g = updS g (cidx x2) (rdS g x3)) := rfl
        generalize updS g (cidx x2) (rdS g x3) = g2 at *
        clear hok o1 o2
        go_wp2
        obtain ⟨W1, hW1⟩ : ∃ W1 : World, W1 = (wr.alloc (.cells #[.int .i64 0, .string x2, .string x3] 53)).drew := ⟨_, rfl⟩
        have e0 : At W1 w.heap.size 117 (stC g) := by rw [hW1]; exact hA0.alloc _
        have e1 : At W1 (w.heap.size + 1) 117 zSA := by rw [hW1]; exact hA1.alloc _
        have e2 : At W1 (w.heap.size + 1 + 1) 149 fnA := by rw [hW1]; exact hA2.alloc _
        have e3 : At W1 wr.heap.size 53 #[.int .i64 0, .string x2, .string x3] := by rw [hW1]; exact At.new wr _ _
        have e4 : Below w.heap.size w W1 := by rw [hW1]; exact (hb.alloc hbs _).drew
        refine region_tail (C := fun w' => w' = W1) 6 (by kernel_rfl) (by kernel_rfl) hW1.symm ?_
        clear hW1
        simp only [List.take_succ_cons, List.take_zero, List.drop_succ_cons, List.drop_zero]
        clear hA0 hA1 hA2 hb hbs
        have q0 : W1.cell? ⟨wr.heap.size, 0, none⟩ = some (.int .i64 0) := e3.cell 0
        have q1 : W1.cell? ⟨wr.heap.size, 1, none⟩ = some (.string x2) := e3.cell 1
        have q2 : W1.cell? ⟨wr.heap.size, 2, none⟩ = some (.string x3) := e3.cell 2
        have q3 : W1.cell? ⟨w.heap.size + 1 + 1, 0, none⟩ = some (.func (.func 138) #[] #[]) := e2.cell 0
        go_big_quiet_step (fail)
        go_big_quiet_step (fail)
        go_big_quiet_step (fail)
        go_big_quiet_step (fail)
        refine row_step rfl 117 (.tmp 2) rfl w.heap.size 117 (stC g) (by rfl) (by rintro W rfl; exact e0) 11 5 Try.underlying117 (by kernel_rfl) ?_
        simp only [Act.put, List.setIfInBounds_toArray, List.set_cons_succ, List.set_cons_zero]
        go_big_quiet_step (fail)
        refine wpQuiet_nil ?_
        intro w' hw'
        subst hw'
        go_wp2_with fail
        refine (hcall _).mono ?_
        rintro e W2 ⟨rfl, hb2⟩
        have k0 := e0.keep hb2
        have k1 := e1.keep hb2
        have k2 := e2.keep hb2
        have k4 := e4.trans (hb2.mono e4.size)
        have k5 := k4.size
        go_wp2_with (refine st_row rfl 117 (.tmp 2) (.tmp 21) rfl rfl w.heap.size 117 (stC g) (stC g2) k0 (by rfl) (by rfl) (by kernel_rfl) rfl (stC_one _) ?_; intro W5 hA5 hg5)
        go_roundw
        case rel => exact ⟨k + 1, by omega, by go_num, k4.trans (below_grown hg5 k5 (fun g hg => by cases hg; omega)), by rw [HRK.out, HD.out]; exact hA5, k1.grown hg5 (by simp), k2.grown hg5 (by simp; omega)⟩
        case measure => simp [intOf]; omega
      · obtain ⟨o1, o2⟩ := stOk_swap hok
        have hcall := fun W => swapped_c g 1 x2 x3 o1 o2 W
        have HD : Hid (doS (1, x2, x3) g = swS g (cidx x2) (cidx x3)) := rfl
        generalize swS g (cidx x2) (cidx x3) = g2 at *
        clear hok o1 o2
        go_wp2
        obtain ⟨W1, hW1⟩ : ∃ W1 : World, W1 = (wr.alloc (.cells #[.int .i64 1, .string x2, .string x3] 53)).drew := ⟨_, rfl⟩
        have e0 : At W1 w.heap.size 117 (stC g) := by rw [hW1]; exact hA0.alloc _
        have e1 : At W1 (w.heap.size + 1) 117 zSA := by rw [hW1]; exact hA1.alloc _
        have e2 : At W1 (w.heap.size + 1 + 1) 149 fnA := by rw [hW1]; exact hA2.alloc _
        have e3 : At W1 wr.heap.size 53 #[.int .i64 1, .string x2, .string x3] := by rw [hW1]; exact At.new wr _ _
        have e4 : Below w.heap.size w W1 := by rw [hW1]; exact (hb.alloc hbs _).drew
        refine region_tail (C := fun w' => w' = W1) 6 (by kernel_rfl) (by kernel_rfl) hW1.symm ?_
        clear hW1
        simp only [List.take_succ_cons, List.take_zero, List.drop_succ_cons, List.drop_zero]
        clear hA0 hA1 hA2 hb hbs
        have q0 : W1.cell? ⟨wr.heap.size, 0, none⟩ = some (.int .i64 1) := e3.cell 0
        have q1 : W1.cell? ⟨wr.heap.size, 1, none⟩ = some (.string x2) := e3.cell 1
        have q2 : W1.cell? ⟨wr.heap.size, 2, none⟩ = some (.string x3) := e3.cell 2
        have q3 : W1.cell? ⟨w.heap.size + 1 + 1, 1, none⟩ = some (.func (.func 139) #[] #[]) := e2.cell 1
        go_big_quiet_step (fail)
        go_big_quiet_step (fail)
        go_big_quiet_step (fail)
        go_big_quiet_step (fail)
        refine row_step rfl 117 (.tmp 2) rfl w.heap.size 117 (stC g) (by rfl) (by rintro W rfl; exact e0) 11 5 Try.underlying117 (by kernel_rfl) ?_
        simp only [Act.put, List.setIfInBounds_toArray, List.set_cons_succ, List.set_cons_zero]
        go_big_quiet_step (fail)
        refine wpQuiet_nil ?_
        intro w' hw'
        subst hw'
        go_wp2_with fail
        refine (hcall _).mono ?_
        rintro e W2 ⟨rfl, hb2⟩
        have k0 := e0.keep hb2
        have k1 := e1.keep hb2
        have k2 := e2.keep hb2
        have k4 := e4.trans (hb2.mono e4.size)
        have k5 := k4.size
        go_wp2_with (refine st_row rfl 117 (.tmp 2) (.tmp 21) rfl rfl w.heap.size 117 (stC g) (stC g2) k0 (by rfl) (by rfl) (by kernel_rfl) rfl (stC_one _) ?_; intro W5 hA5 hg5)
        go_roundw
        case rel => exact ⟨k + 1, by omega, by go_num, k4.trans (below_grown hg5 k5 (fun g hg => by cases hg; omega)), by rw [HRK.out, HD.out]; exact hA5, k1.grown hg5 (by simp), k2.grown hg5 (by simp; omega)⟩
        case measure => simp [intOf]; omega
    · have hk' : k = xs.length := by omega
      have hA3 : At wr w.heap.size 117 (stC (runS xs xs.length f)) := by rw [← hk']; exact hA0
      clear hA0
      generalize hg : runS xs xs.length f = g at *
      have HG := Lib.hid hg
      clear hg
      go_wp2_with (first | (refine ld_row rfl 117 (.tmp 2) rfl w.heap.size 117 (stC g) hA3 (by rfl) 11 5 Try.underlying117 (by kernel_rfl) ?_) | (refine st_row rfl 117 (.tmp 4) (.tmp 23) rfl rfl (w.heap.size + 1) 117 zSA (stC g) hA1 (by rfl) (by rfl) (by kernel_rfl) rfl (stC_one _) ?_; intro W5 hA5 hg5))
      exact bodyPost_ret (v := stV g) (HR _ _ g (w.heap.size + 1) hA5 rfl) rfl ⟨by rw [HG.out], hb.trans (below_grown hg5 hbs (fun g hg => by cases hg; omega))⟩
end Go.Proofs.Ytbgchjjaaelkbaa
namespace Go.PM
open Go.RowKit
def aoP (t : Nat → ByteArray) (f : Nat → UInt8) (n : Nat) : Nat → UInt8 := fun q => if q < n then rdS f (srcT t q) else f q
theorem aoP_zero (t : Nat → ByteArray) (f : Nat → UInt8) : aoP t f 0 = f := by funext q; simp [aoP]
theorem aoP_nine (t : Nat → ByteArray) (f : Nat → UInt8) : aoP t f 9 = aoS t f := rfl
theorem aoP_succ (t : Nat → ByteArray) (f : Nat → UInt8) (p : Nat) : updS (aoP t f p) p (rdS f (srcT t p)) = aoP t f (p + 1) := by
  funext q
  unfold updS aoP
  by_cases h : q = p
  · subst h; simp
  · by_cases h2 : q < p
    · simp [h, h2, Nat.lt_succ_of_lt h2]
    · have : ¬ q < p + 1 := by omega
      simp [h, h2, this]
end Go.PM
namespace Go.Proofs.Ytbgchjjaaelkbaa
open Go.RowKit Go.PM
attribute [local go_sem] Oper.semAt_some

set_option maxRecDepth 100000 in
set_option maxHeartbeats 2000000 in
theorem atOnce_c (t : Nat → ByteArray) (f : Nat → UInt8) (ht : ∀ p, p < 9 → okC (srcT t p) = true) (w : World) :
    Calls Try.prog 109 #[stV f, tabX t] w fun e w' => e = .returned (stV (aoS t f)) ∧ Below w.heap.size w w' := by
  change Calls Try.prog _ #[stV f, tabV t] w _
  have HR : ∀ (tmps : Array Value) (W : World) (g : Nat → UInt8) (b : Nat), At W b 117 (stC g) → tmps.getD 4 undef = .pointer (some ⟨b, 0, none⟩) →
      (results Try.f109 tmps).run Try.prog W = .ok (stV g) W := fun tmps W g b hA h4 =>
    results_row1 Try.results109 tmps W _ _ _ h4 hA 11 5 Try.underlying117 (by kernel_rfl)
  refine (callsIn_wide (n := 5)).1 ?_
  refine callsIn_of_wp_marks Try.func109 rfl trivial ?_ rfl
  simp only [Try.ntmps109, List.size_toArray, List.length_cons, List.length_nil, Nat.reduceAdd, Nat.reduceSub, Array.replicate_succ, Array.replicate_zero, List.push_toArray, List.append_toArray, List.nil_append, List.cons_append]
  obtain ⟨W0, hW0⟩ : ∃ W0 : World, W0 = (((w.alloc (.cells (stC f) 117)).alloc (.cells (tabC t) 73)).alloc (.cells zSA 117)).alloc (.cells zSA 117) := ⟨_, rfl⟩
  have hB0 : Below w.heap.size w W0 := by rw [hW0]; (repeat' (first | (with_reducible exact Below.refl _ _) | (with_reducible assumption) | (with_reducible refine Below.alloc ?_ ?_ _) | (with_reducible refine Below.drew ?_) | (with_reducible refine Below.setCell ?_ ?_ _) | (with_reducible exact Nat.le_refl _) | omega | ((repeat (first | rewrite [World.size_alloc] | rewrite [World.size_setCell] | rewrite [World.size_drew])); omega) | (simp; omega) | (simp; done)))
  have hS0 : W0.heap.size = w.heap.size + 4 := by rw [hW0]; simp only [World.size_alloc]
  have hA0 : At W0 w.heap.size 117 (stC f) := by rw [hW0]; exact (((At.new _ _ _).alloc _).alloc _).alloc _
  have hA1 : At W0 (w.heap.size + 1) 73 (tabC t) := by
    rw [hW0]; have := At.new (w.alloc (.cells (stC f) 117)) 73 (tabC t)
    rw [World.size_alloc] at this; exact (this.alloc _).alloc _
  have hA2 : At W0 (w.heap.size + 1 + 1) 117 zSA := by
    rw [hW0]; have := At.new ((w.alloc (.cells (stC f) 117)).alloc (.cells (tabC t) 73)) 117 zSA
    rw [World.size_alloc, World.size_alloc] at this; exact this.alloc _
  have hA3 : At W0 (w.heap.size + 1 + 1 + 1) 117 zSA := by
    rw [hW0]; have := At.new (((w.alloc (.cells (stC f) 117)).alloc (.cells (tabC t) 73)).alloc (.cells zSA 117)) 117 zSA
    rwa [World.size_alloc, World.size_alloc, World.size_alloc] at this
  have hl0 : At (((w.alloc (.cells (stC f) 117)).alloc (.cells (tabC t) 73)).alloc (.cells zSA 117)) w.heap.size 117 (stC f) := ((At.new _ _ _).alloc _).alloc _
  gi_wp2_with (first | (refine ldIn_row rfl 117 (.tmp 2) rfl w.heap.size 117 (stC f) hl0 (by rfl) 11 5 Try.underlying117 (by kernel_rfl) ?_) | (rw [← hW0]; refine stIn_row rfl 117 (.tmp 5) (.tmp 7) rfl rfl (w.heap.size + 1 + 1 + 1) 117 zSA (stC f) hA3 (by rfl) (by rfl) (by kernel_rfl) rfl (stC_one _) ?_; intro W5 hA5 hg5))
  have k0 := hA0.grown hg5 (by simp; omega)
  have k1 := hA1.grown hg5 (by simp)
  have k2 := hA2.grown hg5 (by simp)
  have kB : Below w.heap.size w W5 := hB0.trans (below_grown hg5 hB0.size (fun g hg => by cases hg; omega))
  have kS : w.heap.size + 4 ≤ W5.heap.size := by have := hg5.size; omega
  clear hA0 hA1 hA2 hA3 hl0 hg5 hB0 hS0 hW0
  refine range_law (F := Fence.wide) (gf := 121) (lf := #[.int .i64 9]) (lb := #[]) rfl (by decide) rfl trivial (fun args w => rfl) (encs := fun p : Nat => #[.int .i64 p]) (xs := List.range 9)
    (below_iter _ _ trivial rfl (by decide)) (fun _ => rfl)
    (fun pre W => At W w.heap.size 117 (stC f) ∧ At W (w.heap.size + 1) 73 (tabC t) ∧ At W (w.heap.size + 1 + 1) 117 zSA ∧ At W (w.heap.size + 1 + 1 + 1) 117 (stC (aoP t f pre.length)) ∧ Below w.heap.size w W)
    (fun _ _ _ => False) ?_ (fun _ => ownFrom_pure _ _) ?_ (fun p => { tmps := #[stV f, tabV t, .pointer (some ⟨w.heap.size, 0, none⟩), .pointer (some ⟨w.heap.size + 1, 0, none⟩), .pointer (some ⟨w.heap.size + 1 + 1, 0, none⟩), .pointer (some ⟨w.heap.size + 1 + 1 + 1, 0, none⟩), .int .i64 p, stV f, .func (.func 121) #[.int .i64 9] #[], .int .i64 p, undef, undef, undef, undef, undef, undef, undef, undef], defers := [] }) ?_ ?_ ?_ ?_
  · rintro s A A' row ⟨h1, h2, h3, h4, h5⟩ hg hr
    have hr' : ∀ r, row = some r → w.heap.size + 4 ≤ r := fun r e => by have := (hr r e).1; omega
    have hne : ∀ b, b < w.heap.size + 4 → some b ≠ row := fun b hb e => by have := hr' _ e.symm; omega
    exact ⟨h1.grown hg (hne _ (by omega)), h2.grown hg (hne _ (by omega)), h3.grown hg (hne _ (by omega)), h4.grown hg (hne _ (by omega)), h5.trans (below_grown hg h5.size (fun g e => by have := hr' _ e; omega))⟩
  · exact ⟨k0, k1, k2, by rw [List.length_nil, aoP_zero]; exact hA5, kB⟩
  · intro l p W Kc hK
    gi_wp2
    exact hK
  · clear k0 k1 k2 kB hA5
    rintro l pre p W ⟨h1, h2, h3, h4, h5⟩ hp hsz
    obtain ⟨hl, hp9⟩ := pre_len pre p hp
    rw [hl] at h4
    have HL : Hid ((pre ++ [p]).length = p + 1) := by show _ = _; simp [hl]
    have hst := stC_set (aoP t f p) p (by omega) (rdS f (srcT t p))
    rw [aoP_succ] at hst
    have HST := Lib.hid hst
    have hpc := stC_at (aoP t f p) p (by omega)
    have hS : ∀ x : Ext W.heap.size W.drew, Calls Try.prog 85 #[tabX t, .int .i64 p] x.val fun e w' => e = .returned (.string (srcT t p)) ∧ Below x.val.heap.size x.val w' := fun x => source_c t p hp9 x.val
    have hR : ∀ x : Ext W.heap.size W.drew, Calls Try.prog 140 #[stV f, .string (srcT t p)] x.val fun e w' => e = .returned (.int .u8 (rdS f (srcT t p)).toNat) ∧ Below x.val.heap.size x.val w' := fun x => read_c f _ (ht p hp9) x.val
    have hC1 := At.ext (W := W.drew) (B := W.heap.size) h1 h1.lt
    have hC2 := At.ext (W := W.drew) (B := W.heap.size) h2 h2.lt
    clear hst hl
    generalize aoP t f p = g at *
    generalize hg2 : aoP t f (p + 1) = g2 at *
    have HG2 := Lib.hid hg2
    clear hg2
    generalize rdS f (srcT t p) = v at *
    generalize srcT t p = q at *
    have i0 : (0 : Int) ≤ (p : Int) := by omega
    have i1 : (p : Int) < 11 := by omega
    gi_wp2
    refine region_tail_inRound (F := Fence.wide) (C := fun w' => ∃ x : Ext W.heap.size W.drew, w' = x.val) 7 rfl (by kernel_rfl) (by kernel_rfl) (by kernel_rfl) ⟨⟨_, Below.refl _ _⟩, rfl⟩ ?_
    simp only [List.take_succ_cons, List.take_zero, List.drop_succ_cons, List.drop_zero]
    gi_big_quiet_step (fail)
    refine rowIn_step rfl 117 (.tmp 2) rfl w.heap.size 117 (stC f) (by rfl) hC1 11 5 Try.underlying117 (by kernel_rfl) ?_
    simp only [Act.put, List.setIfInBounds_toArray, List.set_cons_succ, List.set_cons_zero]
    refine rowIn_step rfl 73 (.tmp 3) rfl (w.heap.size + 1) 73 (tabC t) (by rfl) hC2 9 9 Try.underlying73 (by kernel_rfl) ?_
    simp only [Act.put, List.setIfInBounds_toArray, List.set_cons_succ, List.set_cons_zero]
    gi_big_quiet_step (fail)
    (refine BigFrame.wpQuietIn_want (fun _ _ _ _ => trivial) rfl (fun K hK => ?_); gi_big_quiet_op; refine ⟨_, fun _ => callsIn_wide.2 (ext_call _ (Nat.le_refl _) (hS _)), hK _ ?_⟩; clear hK K)
    (refine BigFrame.wpQuietIn_want (fun _ _ _ _ => trivial) rfl (fun K hK => ?_); gi_big_quiet_op; refine ⟨_, fun _ => callsIn_wide.2 (ext_call _ (Nat.le_refl _) (hR _)), hK _ ?_⟩; clear hK K)
    gi_big_quiet_step (fail)
    refine wpQuietIn_nil ?_
    rintro W2 ⟨xw, rfl⟩
    have hb2 : Below W.heap.size W xw.val := ((Below.refl _ _).drew).trans xw.property
    clear hC1 hC2 hS hR
    generalize xw.val = W2 at *
    have m1 := h1.keep hb2
    have m2 := h2.keep hb2
    have m3 := h3.keep hb2
    have m4 := h4.keep hb2
    have m5 := h5.trans (hb2.mono h5.size)
    have mc := (m4.cell p).trans hpc
    have mf := m4.frozen p
    clear h1 h2 h3 h4 h5
    gi_wp2
    refine ⟨(keepsFrom_below hb2).trans ((KeepsOthers.setCell _ _ _).from _), KeepsIn.zero (by simp [World.size_setCell]; exact hb2.size), m1.far (by simp; omega) _, m2.far (by simp) _, m3.far (by simp) _, ?_, m5.setCell (by simp; omega) _⟩
    rw [HL.out, HG2.out, ← HST.out]
    exact m4.set p _
  · clear k0 k1 k2 kB hA5
    intro D W hD hI hd
    obtain ⟨h1, h2, h3, h4, h5⟩ := hI
    have h4' : At W (w.heap.size + 1 + 1 + 1) 117 (stC (aoS t f)) := h4
    clear h4
    have hDD : w.heap.size + 4 ≤ D := by omega
    generalize hg : aoS t f = g at *
    have HG := Lib.hid hg
    clear hg
    have hW5s := h5.size
    gi_wp2_with (first | (refine ldIn_row rfl 117 (.tmp 5) rfl (w.heap.size + 1 + 1 + 1) 117 (stC g) h4' (by rfl) 11 5 Try.underlying117 (by kernel_rfl) ?_) | (refine stIn_row rfl 117 (.tmp 4) (.tmp 17) rfl rfl (w.heap.size + 1 + 1) 117 zSA (stC g) h3 (by rfl) (by rfl) (by kernel_rfl) rfl (stC_one _) ?_; intro W6 hA6 hg6))
    have d6 : W6.heap[D]? = some (.deferred (some [])) := (hg6.block D (Array.getElem?_eq_some_iff.1 hd).1 (by simp; omega)).trans hd
    have bel : Below w.heap.size w W6 := h5.trans (below_grown hg6 hW5s (fun g hg => by cases hg; omega))
    simp only [Act.put, List.setIfInBounds_toArray, List.set_cons_succ, List.set_cons_zero]
    have fin : LeavesInM Fence.wide 5 Try.prog Try.f109 #[stV f, tabV t, .pointer (some ⟨w.heap.size, 0, none⟩), .pointer (some ⟨w.heap.size + 1, 0, none⟩), .pointer (some ⟨w.heap.size + 1 + 1, 0, none⟩), .pointer (some ⟨w.heap.size + 1 + 1 + 1, 0, none⟩), undef, stV f, .func (.func 121) #[.int .i64 9] #[], undef, undef, undef, undef, undef, undef, undef, undef, .agg (stC g)]
        (fun e w' => e = Ending.returned (stV (aoS t f)) ∧ Below w.heap.size w w') [] .returning (W6.putObj D (.deferred none)) := by
      exact ⟨_, HR _ _ g (w.heap.size + 1 + 1) ((World.putObj_heap_other (by omega)).trans hA6) rfl, by rw [HG.out], bel.trans ⟨rfl, rfl, rfl, by simp [World.putObj], fun k hk => World.putObj_heap_other (by omega)⟩⟩
    exact ⟨by simp, .inl ⟨D, _, rfl, run_takeDeferred d6, fin⟩⟩
  · intro _ _ _ _ _ _ hf
    exact hf.elim
end Go.Proofs.Ytbgchjjaaelkbaa
namespace Go.Proofs.Ytbgchjjaaelkbaa
open Go.RowKit Go.PM Go.Lib

theorem inB_isV (c : UInt8) : isV c = (inB (c.toNat : Int) 48 57 || (inB (c.toNat : Int) 97 122 || inB (c.toNat : Int) 65 90)) := by
  unfold isV inB
  congr 1
  · congr 1; simp; omega
  · congr 1 <;> (congr 1; simp; omega)
end Go.Proofs.Ytbgchjjaaelkbaa
namespace Go.Proofs.Ytbgchjjaaelkbaa
open Go.RowKit Go.PM

end Go.Proofs.Ytbgchjjaaelkbaa
namespace Go.PM
open Go.RowKit
theorem src_okC {xs : List Mv} (h : MV xs) : ∀ p, p < 9 → okC (srcT (tabOf xs) p) = true := by
  intro p hp
  rw [srcM_nm h hp]
  unfold srcM
  cases hf : xs.find? (fun m => decide (m.1 = nm p)) with
  | none =>
    show okC (nm p) = true
    unfold okC; rw [(cidx_nm hp).1]; rfl
  | some m =>
    have hm := List.mem_of_find?_eq_some hf
    have h1 := h.1 m hm
    unfold mok at h1; rw [Bool.and_eq_true] at h1
    exact isS_okC h1.2
def aoB (xs : List Mv) (s : ByteArray) : ByteArray := okS (mvalid xs && stateV s) (stB (aoS (tabOf xs) (ofB s)))
def ioB (xs : List St) (s : ByteArray) : ByteArray := okS (svalid xs && stateV s) (stB (runS xs xs.length (ofB s)))
theorem okS_yes (s : ByteArray) : okS true s = s := rfl
theorem okS_no (s : ByteArray) : okS false s = ⟨#[]⟩ := rfl
end Go.PM
namespace Go.Proofs.Ytbgchjjaaelkbaa
open Go.RowKit Go.PM

end Go.Proofs.Ytbgchjjaaelkbaa
namespace Go.Proofs.Ytbgchjjaaelkbaa
open Go.RowKit Go.PM

end Go.Proofs.Ytbgchjjaaelkbaa
namespace Go.PM
def sameAt (xs ys : List Mv) (p : Nat) : Bool := decide (srcM xs (nm p) = srcM ys (nm p))
def sameM (xs ys : List Mv) : Bool := mvalid xs && mvalid ys && (List.range 9).all (sameAt xs ys)
theorem sameM_no {xs ys : List Mv} (k : Nat) (hk : k < 9) (h : sameAt xs ys k = false) : sameM xs ys = false := by
  have : (List.range 9).all (sameAt xs ys) = false := by
    rw [List.all_eq_false]
    exact ⟨k, by simpa using hk, by rw [h]; decide⟩
  rw [sameM, this, Bool.and_false]
theorem sameM_all {xs ys : List Mv} (h : ∀ p, p < 9 → sameAt xs ys p = true) : sameM xs ys = (mvalid xs && mvalid ys) := by
  have : (List.range 9).all (sameAt xs ys) = true := by
    rw [List.all_eq_true]
    intro p hp
    exact h p (by simpa using hp)
  rw [sameM, this, Bool.and_true]
end Go.PM
namespace Go.Proofs.Ytbgchjjaaelkbaa
open Go.RowKit Go.PM

set_option maxRecDepth 100000 in
set_option maxHeartbeats 2000000 in
theorem spSameMoves_c (xs ys : List Mv) (v u : Value) (w : World) (hx : RdM w v xs) (hy : RdM w u ys) (hz : ∀ m ∈ xs, m.1.size ≤ 9223372036854775807 ∧ m.2.size ≤ 9223372036854775807) (hn' : xs.length ≤ 1048576)
    (hzy : ∀ m ∈ ys, m.1.size ≤ 9223372036854775807 ∧ m.2.size ≤ 9223372036854775807) (hny : ys.length ≤ 1048576) :
    Calls Try.prog 24 #[v, u] w fun e w' => e = .returned (.bool (sameM xs ys)) ∧ Below w.heap.size w w' := by
  have HN : Hid (∀ q, q < 9 → (ByteArray.mk #[97, 98, 99, 100, 101, 102, 65, 66, 67]).extract q (q+1) = nm q) := by
    show ∀ q, _
    intro q hq
    match q, hq with
    | 0, _ | 1, _ | 2, _ | 3, _ | 4, _ | 5, _ | 6, _ | 7, _ | 8, _ => decide +kernel
  have HX := Lib.hid (fun W (hW : Below w.heap.size w W) => hx.below hW)
  have HY := Lib.hid (fun W (hW : Below w.heap.size w W) => hy.below hW)
  have HC := Lib.hid (fun W (hW : Below w.heap.size w W) q => l1Source_c xs v q W (hx.below hW))
  have HD := Lib.hid (fun W (hW : Below w.heap.size w W) q => l1Source_c ys u q W (hy.below hW))
  have HNO := Lib.hid (fun k hk => sameM_no (xs := xs) (ys := ys) k hk)
  have HALL := Lib.hid (fun h => sameM_all (xs := xs) (ys := ys) h)
  have HV := Lib.hid (fun W (hW : Below w.heap.size w W) => spMovesValid_c xs v W (hx.below hW) hz hn')
  have HU := Lib.hid (fun W (hW : Below w.heap.size w W) => spMovesValid_c ys u W (hy.below hW) hzy hny)
  go_enter Try.func24, Try.ntmps24
  go_wp2
  go_loopw [6] (fun i wr => ∃ (k : Nat), k ≤ 9 ∧ i = .int .i64 k ∧ Hid (∀ p, p < k → sameAt xs ys p = true) ∧ Below w.heap.size w wr) (fun i _ => 9 - (intOf i).toNat)
  case atStart => exact ⟨0, by omega, rfl, fun p hp => absurd hp (Nat.not_lt_zero p), Below.refl _ _⟩
  case round =>
    obtain ⟨k, hk, rfl, hm, hb⟩ := hrel
    have hbs := hb.size
    by_cases hlt : k < 9
    · have hex := HN.out k hlt
      have hC : ∀ x : Ext w.heap.size wr, Calls Try.prog 78 #[v, .string (nm k)] x.val fun e w' => e = .returned (.string (srcM xs (nm k))) ∧ Below x.val.heap.size x.val w' := fun x => HC.out x.val (hb.trans x.property) (nm k)
      have hD : ∀ x : Ext w.heap.size wr, Calls Try.prog 78 #[u, .string (nm k)] x.val fun e w' => e = .returned (.string (srcM ys (nm k))) ∧ Below x.val.heap.size x.val w' := fun x => HD.out x.val (hb.trans x.property) (nm k)
      have HS := Lib.hid (show sameAt xs ys k = decide (srcM xs (nm k) = srcM ys (nm k)) from rfl)
      have HNOk := Lib.hid (HNO.out k hlt)
      generalize srcM xs (nm k) = s1 at *
      generalize srcM ys (nm k) = s2 at *
      generalize nm k = q at *
      rcases Bool.eq_false_or_eq_true (s1.toList == s2.toList) with hd | hd
      · go_wp2
        refine wp_region_ext w.heap.size (by kernel_rfl) (by kernel_rfl) ?_
        repeat (go_big_quiet_step ((go_at_call 78; first | (with_reducible exact ext_call _ hbs (hC _)) | (with_reducible exact ext_call _ hbs (hD _)))))
        refine wpQuiet_nil ?_
        intro w2 hw'
        obtain ⟨xw, hxw⟩ := hw'
        have hb2 := xw.property
        rw [← hxw] at hb2
        clear hxw xw hC hD
        have hb3 : Below w.heap.size w w2 := hb.trans hb2
        go_wp2
        go_roundw
        case rel =>
          refine ⟨k + 1, by omega, by go_num, ?_, hb3⟩
          intro p hp
          by_cases hpk : p < k
          · exact hm.out p hpk
          · have : p = k := by omega
            subst this
            rw [HS.out, ← beq_str, hd]
        case measure => simp [intOf]; omega
      · go_wp2
        refine wp_region_ext w.heap.size (by kernel_rfl) (by kernel_rfl) ?_
        repeat (go_big_quiet_step ((go_at_call 78; first | (with_reducible exact ext_call _ hbs (hC _)) | (with_reducible exact ext_call _ hbs (hD _)))))
        refine wpQuiet_nil ?_
        intro w2 hw'
        obtain ⟨xw, hxw⟩ := hw'
        have hb2 := xw.property
        rw [← hxw] at hb2
        clear hxw xw hC hD
        have hb3 : Below w.heap.size w w2 := hb.trans hb2
        go_wp2
        go_ret
        exact ⟨by rw [HNOk.out (by rw [HS.out, ← beq_str, hd])]; rfl, hb3⟩
    · have hk9 : k = 9 := by omega
      subst hk9
      have HA := Lib.hid (HALL.out hm.out)
      have hcx := HV.out wr hb
      generalize mvalid xs = bx at *
      rcases bx with _ | _
      · go_wp2_with fail
        refine hcx.mono ?_
        rintro e w2 ⟨rfl, hb2⟩
        go_wp2
        go_ret
        exact ⟨by rw [HA.out]; rfl, hb.trans (hb2.mono hbs)⟩
      · go_wp2_with fail
        refine hcx.mono ?_
        rintro e w2 ⟨rfl, hb2⟩
        have hb3 := hb.trans (hb2.mono hbs)
        have hs3 := hb3.size
        go_wp2_with fail
        refine (HU.out w2 hb3).mono ?_
        rintro e w3 ⟨rfl, hb4⟩
        go_wp2
        go_ret
        exact ⟨by rw [HA.out]; rfl, hb3.trans (hb4.mono hs3)⟩
end Go.Proofs.Ytbgchjjaaelkbaa
namespace Go.PM
open Go.RowKit
/-- the moves that give each place its value in a state -/
def effA (g : Nat → UInt8) (p : Nat) : Mv := (nm p, ⟨#[g p]⟩)
def effL (g : Nat → UInt8) (k : Nat) : List Mv := (List.range k).map (effA g)
theorem effL_succ (g : Nat → UInt8) (k : Nat) : effL g (k + 1) = effL g k ++ [effA g k] := by simp [effL, List.range_succ]
theorem effL_len (g : Nat → UInt8) (k : Nat) : (effL g k).length = k := by simp [effL]
theorem effL_at (g : Nat → UInt8) (n k : Nat) (h : k < (effL g n).length) : (effL g n)[k] = effA g k := by simp [effL]
theorem effL_take (g : Nat → UInt8) (n k : Nat) (h : k ≤ n) : (effL g n).take k = effL g k := by
  simp only [effL, ← List.map_take, List.take_range]
  rw [Nat.min_eq_left h]
theorem nms_nodup : ((List.range 9).map nm).Nodup := by decide +kernel
theorem effL_MV (g : Nat → UInt8) : MV (effL g 9) ↔ ∀ p, p < 9 → isS ⟨#[g p]⟩ = true := by
  constructor
  · intro h p hp
    have := h.1 (effA g p) (List.mem_map.2 ⟨p, by simpa using hp, rfl⟩)
    unfold mok at this; rw [Bool.and_eq_true] at this
    exact this.2
  · intro h
    refine ⟨fun m hm => ?_, ?_⟩
    · obtain ⟨p, hp, rfl⟩ := List.mem_map.1 hm
      have hp9 : p < 9 := by simpa using hp
      unfold mok effA
      rw [isP_nm hp9, h p hp9]; rfl
    · have : (effL g 9).map (·.1) = (List.range 9).map nm := by simp [effL, effA]
      rw [this]; exact nms_nodup
def effG (xs : List St) : Nat → UInt8 := runS xs xs.length nmS'
where nmS' : Nat → UInt8 := fun q => cellsL.getD q 0
def effOk (xs : List St) : Bool := svalid xs && mvalid (effL (effG xs) 9)
def effM (xs : List St) : List Mv := if effOk xs then busyM (effL (effG xs) 9) else []
theorem effM_yes {xs : List St} (h : effOk xs = true) : effM xs = busyM (effL (effG xs) 9) := if_pos h
theorem effM_no {xs : List St} (h : effOk xs = false) : effM xs = [] := if_neg (by rw [h]; decide)
theorem effOk_no {xs : List St} (p : Nat) (hp : p < 9) (h : isS ⟨#[effG xs p]⟩ = false) : effOk xs = false := by
  have : mvalid (effL (effG xs) 9) = false := by
    simp only [mvalid, decide_eq_false_iff_not, effL_MV]
    intro h2
    rw [h2 p hp] at h; cases h
  rw [effOk, this, Bool.and_false]
theorem effOk_yes {xs : List St} (hv : svalid xs = true) (h : ∀ p, p < 9 → isS ⟨#[effG xs p]⟩ = true) : effOk xs = true := by
  have : mvalid (effL (effG xs) 9) = true := by
    simp only [mvalid, decide_eq_true_eq, effL_MV]; exact h
  rw [effOk, this, hv]; rfl
theorem busyE_zero (g : Nat → UInt8) : busyM (effL g 0) = [] := rfl
theorem busyE_succ (g : Nat → UInt8) (k : Nat) : busyM (effL g (k + 1)) = if (⟨#[g k]⟩ : ByteArray) = nm k then busyM (effL g k) else busyM (effL g k) ++ [effA g k] := by
  unfold busyM
  rw [effL_succ, List.filter_append]
  by_cases h : (⟨#[g k]⟩ : ByteArray) = nm k
  · simp [effA, h]
  · have : ¬ nm k = (⟨#[g k]⟩ : ByteArray) := fun e => h e.symm
    simp [effA, h, this]
theorem busyE_le (g : Nat → UInt8) (k : Nat) : (busyM (effL g k)).length ≤ k := by
  have := busyM_le (effL g k)
  rw [effL_len] at this; exact this
theorem stB_names : stB (fun q => cellsL.getD q 0) = cellsB := rfl
end Go.PM
namespace Go.Proofs.Ytbgchjjaaelkbaa
open Go.RowKit Go.PM

end Go.Proofs.Ytbgchjjaaelkbaa
namespace Go.PM
open Go.RowKit
theorem srcM_nil (a : ByteArray) : srcM [] a = a := rfl
theorem srcM_cons (m : Mv) (xs : List Mv) (a : ByteArray) : srcM (m :: xs) a = if m.1 = a then m.2 else srcM xs a := by
  unfold srcM
  rw [List.find?_cons]
  by_cases h : m.1 = a <;> simp [h]
theorem srcM_none {xs : List Mv} {a : ByteArray} (h : a ∉ xs.map (·.1)) : srcM xs a = a := by
  unfold srcM
  have : xs.find? (fun m => decide (m.1 = a)) = none := by
    rw [List.find?_eq_none]
    intro m hm e
    exact h (List.mem_map.2 ⟨m, hm, by simpa using e⟩)
  rw [this]; rfl
theorem srcM_busy : ∀ (xs : List Mv) (a : ByteArray), (xs.map (·.1)).Nodup → srcM (busyM xs) a = srcM xs a
  | [], _, _ => rfl
  | m :: xs, a, h => by
    rw [List.map_cons, List.nodup_cons] at h
    have ih := srcM_busy xs a h.2
    by_cases he : m.1 = m.2
    · have e : busyM (m :: xs) = busyM xs := by simp [busyM, he]
      rw [e, ih, srcM_cons]
      by_cases hm : m.1 = a
      · rw [if_pos hm, ← he, hm]
        exact srcM_none (by rw [← hm]; exact h.1)
      · rw [if_neg hm]
    · have e : busyM (m :: xs) = m :: busyM xs := by simp [busyM, he]
      rw [e, srcM_cons, srcM_cons, ih]
theorem busyM_MV {xs : List Mv} (h : MV xs) : MV (busyM xs) :=
  ⟨fun m hm => h.1 m (List.mem_filter.1 hm).1, h.2.sublist (List.Sublist.map _ (List.filter_sublist ..))⟩
theorem find_nm : ∀ p, p < 9 → (List.range 9).find? (fun q => decide (nm q = nm p)) = some p := by
  intro p hp
  match p, hp with
  | 0, _ | 1, _ | 2, _ | 3, _ | 4, _ | 5, _ | 6, _ | 7, _ | 8, _ => decide +kernel
theorem srcM_effL (g : Nat → UInt8) (p : Nat) (hp : p < 9) : srcM (effL g 9) (nm p) = ⟨#[g p]⟩ := by
  unfold srcM effL
  rw [List.find?_map]
  have e : ((fun m : Mv => decide (m.1 = nm p)) ∘ effA g) = fun q => decide (nm q = nm p) := rfl
  rw [e, find_nm p hp]; rfl
def nmT : Nat → UInt8 := fun q => cellsL.getD q 0
theorem rd_name {a : ByteArray} (h : isS a = true) : (⟨#[rdS nmT a]⟩ : ByteArray) = a := by
  rcases Bool.eq_false_or_eq_true (isC a) with hc | hc
  · rw [rdS_cell hc]
    obtain ⟨c, rfl⟩ := one_of_size (isC_size hc)
    have h2 : c ∈ cellsL := by simpa [isC] using hc
    show (⟨#[cellsL.getD (cidx ⟨#[c]⟩) 0]⟩ : ByteArray) = _
    rw [(cidx_one h2).2.2]
  · rw [rdS_digit hc]; exact (fc_one (isS_size h)).symm
theorem srcM_isSr {xs : List Mv} (h : MV xs) (p : Nat) (hp : p < 9) : isS (srcM xs (nm p)) = true := by
  unfold srcM
  cases hf : xs.find? (fun m => decide (m.1 = nm p)) with
  | none => show isS (nm p) = true; unfold isS; rw [isP_nm hp]; rfl
  | some m =>
    have h1 := h.1 m (List.mem_of_find?_eq_some hf)
    unfold mok at h1; rw [Bool.and_eq_true] at h1
    exact h1.2
def irB (xs : List St) (ys : List Mv) : Bool := effOk xs && sameM (effM xs) ys
theorem one_inj {a b : UInt8} : (⟨#[a]⟩ : ByteArray) = ⟨#[b]⟩ ↔ a = b := by
  constructor
  · intro h
    have := congrArg (fun s : ByteArray => s.data.toList) h
    simpa using this
  · intro h; rw [h]
theorem irB_eq (xs : List St) (ys : List Mv) (h1 : svalid xs = true) (h2 : MV ys) :
    ((List.range 11).all fun p => decide ((if p < 9 then effG xs p else nmT p) = aoS (tabOf ys) nmT p)) = irB xs ys := by
  have m2 : mvalid ys = true := by simpa [mvalid] using h2
  have key : ∀ p, p < 9 → (effG xs p = aoS (tabOf ys) nmT p ↔ (⟨#[effG xs p]⟩ : ByteArray) = srcM ys (nm p)) := fun p hp => by
    unfold aoS
    rw [if_pos hp, srcM_nm h2 hp, ← one_inj, rd_name (srcM_isSr h2 p hp)]
  have e11 : ∀ P : Nat → Prop, (∀ p, p < 11 → P p) ↔ ((∀ p, p < 9 → P p) ∧ P 9 ∧ P 10) := fun P => by
    constructor
    · intro h; exact ⟨fun p hp => h p (by omega), h 9 (by omega), h 10 (by omega)⟩
    · rintro ⟨h, h9, h10⟩ p hp
      by_cases hp9 : p < 9
      · exact h p hp9
      · have : p = 9 ∨ p = 10 := by omega
        rcases this with rfl | rfl
        · exact h9
        · exact h10
  rw [Bool.eq_iff_iff, List.all_eq_true]
  have hl : (∀ p ∈ List.range 11, decide ((if p < 9 then effG xs p else nmT p) = aoS (tabOf ys) nmT p) = true) ↔ ∀ p, p < 9 → (⟨#[effG xs p]⟩ : ByteArray) = srcM ys (nm p) := by
    have : (∀ p ∈ List.range 11, decide ((if p < 9 then effG xs p else nmT p) = aoS (tabOf ys) nmT p) = true) ↔ ∀ p, p < 11 → (if p < 9 then effG xs p else nmT p) = aoS (tabOf ys) nmT p := by
      constructor
      · intro h p hp; simpa using h p (by simpa using hp)
      · intro h p hp; simpa using h p (by simpa using hp)
    rw [this, e11]
    constructor
    · rintro ⟨h, _, _⟩ p hp
      have := h p hp
      rw [if_pos hp] at this
      exact (key p hp).1 this
    · intro h
      refine ⟨fun p hp => ?_, ?_, ?_⟩
      · rw [if_pos hp]; exact (key p hp).2 (h p hp)
      · simp [aoS]
      · simp [aoS]
  rw [hl]
  unfold irB
  rcases Bool.eq_false_or_eq_true (effOk xs) with ho | ho
  · have hmv : MV (effL (effG xs) 9) := by
      unfold effOk at ho; rw [Bool.and_eq_true] at ho
      simpa [mvalid] using ho.2
    have m1 : mvalid (effM xs) = true := by rw [effM_yes ho]; simpa [mvalid] using busyM_MV hmv
    rw [ho, Bool.true_and, sameM, m1, m2, Bool.true_and, Bool.true_and, List.all_eq_true]
    have hk : ∀ p, p < 9 → srcM (effM xs) (nm p) = ⟨#[effG xs p]⟩ := fun p hp => by
      rw [effM_yes ho, srcM_busy _ _ hmv.2, srcM_effL _ p hp]
    constructor
    · intro h p hp
      have hp9 : p < 9 := by simpa using hp
      rw [sameAt, hk p hp9]; simpa using h p hp9
    · intro h p hp
      have := h p (by simpa using hp)
      rw [sameAt, hk p hp] at this; simpa using this
  · rw [ho, Bool.false_and]
    constructor
    · intro h
      have hmv : MV (effL (effG xs) 9) := (effL_MV _).2 fun p hp => by rw [h p hp]; exact srcM_isSr h2 p hp
      have : effOk xs = true := by rw [effOk, h1]; simpa [mvalid] using hmv
      rw [this] at ho; cases ho
    · intro h; cases h
end Go.PM
namespace Go.Proofs.Ytbgchjjaaelkbaa
open Go.RowKit Go.PM
attribute [local go_sem] Oper.semAt_some

theorem busyE_sizes (xs : List St) : (∀ m ∈ effM xs, m.1.size ≤ 9223372036854775807 ∧ m.2.size ≤ 9223372036854775807) ∧ (effM xs).length ≤ 9 := by
  rcases Bool.eq_false_or_eq_true (effOk xs) with h | h
  · rw [effM_yes h]
    refine ⟨fun m hm => ?_, busyE_le _ 9⟩
    have h2 := (List.mem_filter.1 hm).1
    obtain ⟨p, _, rfl⟩ := List.mem_map.1 h2
    exact ⟨by show (1 : Nat) ≤ _; omega, by show (1 : Nat) ≤ _; omega⟩
  · rw [effM_no h]
    exact ⟨by simp, by simp⟩

theorem eq_u8 (d : Nat) (a b : UInt8) (W : World) : (Op.equalIn (d + 1) 5 (.int .u8 a.toNat) (.int .u8 b.toNat)).run Try.prog W = .ok (decide (a = b)) W := by
  have : (((a.toNat : Int) == (b.toNat : Int))) = decide (a = b) := by
    rw [Bool.eq_iff_iff, beq_iff_eq, decide_eq_true_eq, ← UInt8.toNat_inj]; omega
  simp [Op.equalIn, go_sem, this]
theorem eqS_items (f g : Nat → UInt8) (W : World) : ∀ is : List Nat, (∀ i ∈ is, i < 11) → (Op.eqItems 9999 5 1 (stC f) (stC g) is).run Try.prog W = .ok (is.all fun p => decide (f p = g p)) W := by
  intro is
  induction is with
  | nil => intro _; rfl
  | cons i is ih =>
    intro h
    have hi := h i (List.mem_cons_self ..)
    have h1 : (part 5 (stC f) (i * 1)).run Try.prog W = .ok (.int .u8 (f i).toNat) W := run_part_plain (P := Try.prog) W (by kernel_rfl) (by rw [Nat.mul_one]; exact stC_at f i hi)
    have h2 : (part 5 (stC g) (i * 1)).run Try.prog W = .ok (.int .u8 (g i).toNat) W := run_part_plain (P := Try.prog) W (by kernel_rfl) (by rw [Nat.mul_one]; exact stC_at g i hi)
    have h3 := eq_u8 9998 (f i) (g i) W
    rw [Op.eqItems, Sem.run_bind, h1, Result.andThen_ok, Sem.run_bind, h2, Result.andThen_ok, Sem.run_bind, h3, Result.andThen_ok, List.all_cons]
    cases hb : decide (f i = g i)
    · rfl
    · rw [if_neg (by decide), ih (fun j hj => h j (List.mem_cons_of_mem _ hj)), Bool.true_and]
theorem eq_st (f g : Nat → UInt8) (W : World) : (Op.equalIn 10000 117 (stV f) (stV g)).run Try.prog W = .ok ((List.range 11).all fun p => decide (f p = g p)) W := by
  have his : (Try.prog.info? 5).isSome = true := by kernel_rfl
  obtain ⟨i, hi⟩ := Option.isSome_iff_exists.1 his
  have hc : Try.prog.cellsOf 5 = 1 := by kernel_rfl
  have h := run_equalIn_array (P := Try.prog) (w := W) 9999 (t := 117) (e := 5) (n := 11) (stC f) (stC g) Try.underlying117 hi
  rw [hc] at h
  exact h.trans (eqS_items f g W _ (fun i hi => by simpa using hi))

set_option maxRecDepth 100000 in
set_option maxHeartbeats 2000000 in
theorem imIsRight_c (xs : List St) (ys : List Mv) (v u : Value) (w : World) (hx : RdS w v xs) (hy : RdM w u ys) :
    Calls Try.prog 50 #[v, u] w fun e w' => e = .returned (.bool (irB xs ys)) ∧ Below w.heap.size w w' := by
  have HSV := Lib.hid (fun W (hW : Below w.heap.size w W) => imSequenceValid_c xs v W (hx.below hW))
  by_cases h2 : MV ys
  · have HT := Lib.hid (tableOf_yes ys h2 u w hy)
    have HA := Lib.hid (fun W => atOnce_c (tabOf ys) nmT (src_okC h2) W)
    rcases Bool.eq_false_or_eq_true (svalid xs) with h1 | h1
    · have HIO := Lib.hid (fun W (hW : Below w.heap.size w W) => inOrder_c xs (fun k hk => svalid_at h1 k hk) v nmT W (hx.below hW))
      have HE := Lib.hid (irB_eq xs ys h1 h2)
      have HG : Hid (runS xs xs.length nmT = effG xs) := rfl
      have HW : Hid (wspS (effG xs) nmT = fun p => if p < 9 then effG xs p else nmT p) := rfl
      have H1 := Lib.hid h1
      clear h1 h2 hx hy
      have HWS := Lib.hid (fun W => withSpares_c (effG xs) nmT W)
      have HEQ := Lib.hid (fun W => eq_st (wspS (effG xs) nmT) (aoS (tabOf ys) nmT) W)
      have HE2 : Hid (((List.range 11).all fun p => decide (wspS (effG xs) nmT p = aoS (tabOf ys) nmT p)) = irB xs ys) := HE.out
      generalize tabOf ys = t at *
      generalize wspS (effG xs) nmT = f1 at *
      generalize aoS t nmT = f2 at *
      rw [HG.out] at HIO
      generalize effG xs = g at *
      go_enter Try.func50, Try.ntmps50
      go_wp2_with fail
      refine HT.out.mono ?_
      rintro e w1 ⟨rfl, hb1⟩
      have hs1 := hb1.size
      have k2 := At.new w1 73 (tabA t)
      have b2 : Below w.heap.size w (w1.alloc (.cells (tabA t) 73)) := hb1.alloc hs1 _
      go_wp2_with fail
      refine (HSV.out _ b2).mono ?_
      rintro e w3 ⟨rfl, hb3⟩
      rw [H1.out]
      have k3 := k2.keep hb3
      have b3 := b2.trans (hb3.mono b2.size)
      go_wp2_with fail
      refine (stateOfNames_c _).mono ?_
      rintro e w4 ⟨rfl, hb4⟩
      have k4 := k3.keep hb4
      have b4 := b3.trans (hb4.mono b3.size)
      have s4 := b4.size
      have z4 := At.new w4 117 zSA
      go_wp2_with (refine st_row rfl 117 (.tmp 7) (.tmp 20) rfl rfl w4.heap.size 117 zSA (stC nmT) z4 (by rfl) (by rfl) (by kernel_rfl) rfl (stC_one _) ?_; intro W5 k5 g5)
      have j5 := (k4.alloc (.cells zSA 117)).grown g5 (by have := k4.lt; simp; omega)
      have b5 : Below w.heap.size w W5 := (b4.alloc s4 _).trans (below_grown g5 (by simp; omega) (fun g hg => by cases hg; omega))
      have hC1 := At.ext (W := W5.drew) (B := W5.heap.size) k5 k5.lt
      have hC2 := At.ext (W := W5.drew) (B := W5.heap.size) j5 j5.lt
      have hIO : ∀ x : Ext W5.heap.size W5.drew, Calls Try.prog 107 #[stV nmT, v] x.val fun e w' => e = .returned (stV g) ∧ Below x.val.heap.size x.val w' := fun x => HIO.out x.val (b5.drew.trans (x.property.mono b5.size))
      refine wp_region_quiet (C := fun w' => ∃ x : Ext W5.heap.size W5.drew, w' = x.val) (by kernel_rfl) (by kernel_rfl) ⟨⟨_, Below.refl _ _⟩, rfl⟩ ?_
      simp only
      have hEQ := HEQ.out
      rw [HE2.out] at hEQ
      refine row_step rfl 117 (.tmp 7) rfl w4.heap.size 117 (stC nmT) (by rfl) hC1 11 5 Try.underlying117 (by kernel_rfl) ?_
      simp only [Act.put, List.setIfInBounds_toArray, List.set_cons_succ, List.set_cons_zero]
      go_big_quiet_step (fail)
      go_big_quiet_step ((exact ext_call _ (Nat.le_refl _) (hIO _)))
      refine row_step rfl 117 (.tmp 7) rfl w4.heap.size 117 (stC nmT) (by rfl) hC1 11 5 Try.underlying117 (by kernel_rfl) ?_
      simp only [Act.put, List.setIfInBounds_toArray, List.set_cons_succ, List.set_cons_zero]
      go_big_quiet_step ((exact ext_call _ (Nat.le_refl _) (HWS.out _)))
      refine row_step rfl 117 (.tmp 7) rfl w4.heap.size 117 (stC nmT) (by rfl) hC1 11 5 Try.underlying117 (by kernel_rfl) ?_
      simp only [Act.put, List.setIfInBounds_toArray, List.set_cons_succ, List.set_cons_zero]
      refine row_step rfl 73 (.tmp 5) rfl w1.heap.size 73 (tabA t) (by rfl) hC2 9 9 Try.underlying73 (by kernel_rfl) ?_
      simp only [Act.put, List.setIfInBounds_toArray, List.set_cons_succ, List.set_cons_zero]
      go_big_quiet_step ((exact ext_call _ (Nat.le_refl _) (HA.out _)))
      go_big_quiet_step (fail)
      go_big_quiet_step (fail)
      refine wpQuiet_nil ?_
      rintro w6 ⟨xw, rfl⟩
      have hb6 : Below w.heap.size w xw.val := b5.drew.trans (xw.property.mono b5.size)
      go_wp2
      go_ret
      exact ⟨rfl, hb6⟩
    · have HN : Hid (irB xs ys = false) := by show _ = _; rw [irB, effOk, h1]; rfl
      have H1 := Lib.hid h1
      clear h1 h2 hx hy HA
      generalize tabOf ys = t at *
      go_enter Try.func50, Try.ntmps50
      go_wp2_with fail
      refine HT.out.mono ?_
      rintro e w1 ⟨rfl, hb1⟩
      have hs1 := hb1.size
      have b2 : Below w.heap.size w (w1.alloc (.cells (tabA t) 73)) := hb1.alloc hs1 _
      go_wp2_with fail
      refine (HSV.out _ b2).mono ?_
      rintro e w3 ⟨rfl, hb3⟩
      rw [H1.out]
      have b3 := b2.trans (hb3.mono b2.size)
      go_wp2
      go_ret
      exact ⟨by rw [HN.out]; rfl, b3⟩
  · have HN : Hid (irB xs ys = false) := by
      have : mvalid ys = false := by simpa [mvalid] using h2
      show _ = _
      rw [irB, sameM, this, Bool.and_false, Bool.false_and, Bool.and_false]
    have HT := Lib.hid (tableOf_no ys h2 u w hy)
    clear h2 hx hy HSV
    go_enter Try.func50, Try.ntmps50
    go_wp2_with fail
    refine HT.out.mono ?_
    rintro e w1 ⟨rfl, hb1⟩
    have hs1 := hb1.size
    go_wp2
    go_ret
    exact ⟨by rw [HN.out]; rfl, by (repeat' (first | (with_reducible exact Below.refl _ _) | (with_reducible assumption) | (with_reducible refine Below.alloc ?_ ?_ _) | (with_reducible refine Below.drew ?_) | (with_reducible refine Below.setCell ?_ ?_ _) | (with_reducible exact Nat.le_refl _) | omega | ((repeat (first | rewrite [World.size_alloc] | rewrite [World.size_setCell] | rewrite [World.size_drew])); omega) | (simp; omega) | (simp; done)))⟩
end Go.Proofs.Ytbgchjjaaelkbaa
namespace Go.PM
open Go.RowKit
def runM (ms : List Mv) (f : Nat → UInt8) : Nat → UInt8 := ms.foldl (fun g m => updS g (cidx m.1) (rdS g m.2)) f
theorem runM_cons (m : Mv) (ms : List Mv) (f : Nat → UInt8) : runM (m :: ms) f = runM ms (updS f (cidx m.1) (rdS f m.2)) := rfl
theorem runS_stL (ms : List Mv) (f : Nat → UInt8) : runS (stL ms) (stL ms).length f = runM ms f := by
  unfold runS runM stL
  rw [List.take_length, List.foldl_map]
  rfl
theorem spT_cell : isC spT = true ∧ cidx spT = 9 := by decide +kernel
/-- what a waiting move reads -/
def okR (a : ByteArray) : Prop := isP a = true ∨ isD a = true ∨ a = spT
theorem cidx_P {a : ByteArray} (h : isP a = true) : isC a = true ∧ cidx a < 9 ∧ nm (cidx a) = a := by
  have h1 := isP_isC h
  have h2 := pidx_spec h
  rw [h1.2]; exact ⟨h1.1, h2⟩
theorem rdS_ne {a b : ByteArray} (ha : okR a) (hb : isP b = true ∨ b = spT) (hne : a ≠ b) (f : Nat → UInt8) (v : UInt8) : rdS (updS f (cidx b) v) a = rdS f a := by
  have hc : isC a = true → cidx a ≠ cidx b := fun h e => by
    rcases ha with ha | ha | ha
    · rcases hb with hb | hb
      · have h1 := (cidx_P ha).2.2; have h2 := (cidx_P hb).2.2
        rw [e, h2] at h1; exact hne h1.symm
      · have h1 := (cidx_P ha).2.1
        rw [e, hb, spT_cell.2] at h1; omega
    · rw [isD_notC ha] at h; cases h
    · rcases hb with hb | hb
      · have h2 := (cidx_P hb).2.1
        rw [← e, ha, spT_cell.2] at h2; omega
      · exact hne (ha.trans hb.symm)
  unfold rdS
  rcases Bool.eq_false_or_eq_true (isC a) with h | h
  · rw [if_pos h, if_pos h, updS, if_neg (hc h)]
  · rw [if_neg (by rw [h]; decide), if_neg (by rw [h]; decide)]
theorem rdS_same {b : ByteArray} (hb : isP b = true ∨ b = spT) (f : Nat → UInt8) (v : UInt8) : rdS (updS f (cidx b) v) b = v := by
  have : isC b = true := by
    rcases hb with hb | hb
    · exact (cidx_P hb).1
    · rw [hb]; exact spT_cell.1
  rw [rdS_cell this, updS, if_pos rfl]
/-- each waiting move reads what its place is to get, and the other places have it -/
structure Due (T : Nat → UInt8) (ws : List Mv) (f : Nat → UInt8) : Prop where
  rd : ∀ m ∈ ws, rdS f m.2 = T (cidx m.1)
  has : ∀ p, p < 9 → nm p ∉ ws.map (·.1) → f p = T p
theorem Due.some_ {T : Nat → UInt8} {ws : List Mv} {f : Nat → UInt8} (h : Due T ws f) (hw : Wt ws) {i : Nat} (hi : i < ws.length) (hf : rdN ws ws[i].1 = 0) :
    Due T (redM ws[i] (ws.eraseIdx i)) (updS f (cidx ws[i].1) (rdS f ws[i].2)) := by
  have hm := List.getElem_mem hi
  have hp := hw.to_ _ hm
  have hz := rdN_zero.1 hf
  have key : ∀ x ∈ ws.eraseIdx i, rdS (updS f (cidx ws[i].1) (rdS f ws[i].2)) x.2 = T (cidx x.1) := fun x hx => by
    have hx1 := erase_mem hx
    rw [rdS_ne (hw.from_ x hx1) (.inl hp) (hz x hx1)]
    exact h.rd x hx1
  refine ⟨fun m' hm' => ?_, fun p hp9 hn => ?_⟩
  · unfold redM at hm'
    split at hm'
    · exact key m' hm'
    · obtain ⟨x, hx, e1, (⟨e2, e3⟩ | ⟨e2, e3⟩)⟩ := instM_mem hm'
      · rw [e3, rdS_same (.inl hp), e1, ← e2]
        exact h.rd x (erase_mem hx)
      · rw [e3]; exact key x hx
  · rw [redM_keys] at hn
    by_cases e : nm p = ws[i].1
    · have : cidx ws[i].1 = p := by rw [← e, (cidx_nm hp9).2]
      rw [this, updS, if_pos rfl, h.rd _ hm, this]
    · rw [updS, if_neg]
      · refine h.has p hp9 fun hk => ?_
        obtain ⟨x, hx, ex⟩ := List.mem_map.1 hk
        rcases erase_or hi hx with h1 | h1
        · exact e (by rw [← ex, h1])
        · exact hn (List.mem_map.2 ⟨x, h1, ex⟩)
      · intro e2
        exact e (by rw [e2]; exact (cidx_P hp).2.2)
theorem Due.none_ {T : Nat → UInt8} {ws : List Mv} {f : Nat → UInt8} (h : Due T ws f) (hw : Wt ws) (h0 : 0 < ws.length) (hn : aheadI ws = none) :
    Due T (redM (spT, ws[0].1) ws) (updS f (cidx spT) (rdS f ws[0].1)) := by
  obtain ⟨_, _, f3⟩ := hw.full hn
  have hz := rdN_zero.1 f3
  have hp := isP_cases (hw.to_ _ (List.getElem_mem h0))
  refine ⟨fun m' hm' => ?_, fun p hp9 hk => ?_⟩
  · unfold redM at hm'
    rw [if_neg (by show ¬ isD ws[0].1 = true; rw [hp.1]; decide)] at hm'
    obtain ⟨x, hx, e1, (⟨e2, e3⟩ | ⟨e2, e3⟩)⟩ := instM_mem hm'
    · rw [e3, rdS_same (.inr rfl), e1, ← h.rd x hx, e2]
    · rw [e3, rdS_ne (hw.from_ x hx) (.inr rfl) (hz x hx)]
      exact h.rd x hx
  · rw [redM_keys] at hk
    rw [updS, spT_cell.2, if_neg (by omega)]
    exact h.has p hp9 hk
theorem ordF_due {T : Nat → UInt8} : ∀ (n : Nat) (ws : List Mv) (f : Nat → UInt8), Wt ws → muW ws ≤ n → Due T ws f → ∀ p, p < 9 → runM (ordF n ws) f p = T p := by
  intro n
  induction n with
  | zero =>
    intro ws f _ hmu h p hp
    have : ws = [] := List.length_eq_zero_iff.1 (by unfold muW at hmu; omega)
    subst this
    exact h.has p hp (by simp)
  | succ n ih =>
    intro ws f hw hmu h p hp
    by_cases h0 : 0 < ws.length
    · cases ha : aheadI ws with
      | some i =>
        obtain ⟨hi, hf⟩ := aheadI_some ha
        rw [ordF_some hi ha, runM_cons]
        exact ih _ _ (hw.some_ hi hf) (by have := muW_some hi ws[i]; omega) (h.some_ hw hi hf) p hp
      | none =>
        rw [ordF_none h0 ha, runM_cons]
        exact ih _ _ (hw.none_ h0 ha).1 (by have := muW_none hw h0 ha; omega) (h.none_ hw h0 ha) p hp
    · have : ws = [] := List.length_eq_zero_iff.1 (by omega)
      subst this
      rw [ordF_nil]
      exact h.has p hp (by simp)
theorem ordF_ok : ∀ (n : Nat) (ws : List Mv), Wt ws → ∀ m ∈ ordF n ws, (isP m.1 = true ∨ m.1 = spT) ∧ okR m.2 := by
  intro n
  induction n with
  | zero => intro ws _ m hm; cases hm
  | succ n ih =>
    intro ws hw m hm
    by_cases h0 : 0 < ws.length
    · cases ha : aheadI ws with
      | some i =>
        obtain ⟨hi, hf⟩ := aheadI_some ha
        rw [ordF_some hi ha, List.mem_cons] at hm
        rcases hm with rfl | hm
        · exact ⟨.inl (hw.to_ _ (List.getElem_mem hi)), hw.from_ _ (List.getElem_mem hi)⟩
        · exact ih _ (hw.some_ hi hf) m hm
      | none =>
        rw [ordF_none h0 ha, List.mem_cons] at hm
        rcases hm with rfl | hm
        · exact ⟨.inr rfl, .inl (hw.to_ _ (List.getElem_mem h0))⟩
        · exact ih _ (hw.none_ h0 ha).1 m hm
    · have : ws = [] := List.length_eq_zero_iff.1 (by omega)
      subst this
      rw [ordF_nil] at hm; cases hm
theorem stOk_M {m : Mv} (h1 : isP m.1 = true ∨ m.1 = spT) (h2 : okR m.2) : stOk (stpM m) = true := by
  have a1 : isC m.1 = true := by
    rcases h1 with h | h
    · exact (cidx_P h).1
    · rw [h]; exact spT_cell.1
  have a2 : (isC m.2 || isD m.2) = true := by
    rcases h2 with h | h | h
    · rw [(cidx_P h).1]; rfl
    · rw [h, Bool.or_true]
    · rw [h]; decide +kernel
  unfold stOk stpM
  simp only [a1, a2]
  rfl
theorem svalid_stL {ms : List Mv} (hl : ms.length ≤ 60) (h : ∀ m ∈ ms, (isP m.1 = true ∨ m.1 = spT) ∧ okR m.2) : svalid (stL ms) = true := by
  unfold svalid
  rw [Bool.and_eq_true, decide_eq_true_eq, List.all_eq_true]
  refine ⟨by unfold stL; rw [List.length_map]; exact hl, fun x hx => ?_⟩
  obtain ⟨m, hm, rfl⟩ := List.mem_map.1 hx
  exact stOk_M (h m hm).1 (h m hm).2
/-- steps of moves that give each place its value are right -/
theorem right_of_run {ms xs : List Mv} (hv : svalid (stL ms) = true) (hx : MV xs) (h : ∀ p, p < 9 → runM ms nmT p = rdS nmT (srcM xs (nm p))) : irB (stL ms) xs = true := by
  rw [← irB_eq (stL ms) xs hv hx, List.all_eq_true]
  intro p hp
  rw [decide_eq_true_eq]
  by_cases h9 : p < 9
  · rw [if_pos h9, aoS, if_pos h9, srcM_nm hx h9]
    have := h p h9
    rw [← runS_stL] at this
    exact this
  · rw [if_neg h9, aoS, if_neg h9]
theorem busy_due {xs : List Mv} (_hx : MV xs) : Due (fun p => rdS nmT (srcM xs (nm p))) (busyF xs 9) nmT := by
  have hl : busyF xs 9 = lsF (fun p => srcM xs (nm p)) 9 := rfl
  refine ⟨fun m hm => ?_, fun p hp hn => ?_⟩
  · rw [hl] at hm
    obtain ⟨p, hp, _, rfl⟩ := lsF_mem hm
    show _ = rdS nmT (srcM xs (nm (cidx (nm p))))
    rw [(cidx_nm hp).2]
  · have : srcM xs (nm p) = nm p := by
      refine Classical.not_not.1 fun hne => hn ?_
      rw [hl]
      exact List.mem_map.2 ⟨(nm p, srcM xs (nm p)), List.mem_map.2 ⟨p, List.mem_filter.2 ⟨by simpa using hp, by simpa [lsH] using hne⟩, rfl⟩, rfl⟩
    show nmT p = rdS nmT (srcM xs (nm p))
    rw [this, rdS_nm nmT hp]
theorem busy_mu {xs : List Mv} : muW (busyF xs 9) ≤ 19 := by
  have := busyF_len xs 9
  unfold muW
  split <;> omega
theorem ordM_yes {xs : List Mv} (h : MV xs) : ordM xs = ordF 19 (busyF xs 9) := if_pos (by simpa [mvalid] using h)
theorem ordM_valid {xs : List Mv} (h : MV xs) : svalid (stL (ordM xs)) = true := by
  rw [ordM_yes h]
  exact svalid_stL (by have := ordF_len 19 (busyF xs 9); omega) (ordF_ok 19 _ (busyF_Wt h))
/-- the steps of an order do the moves -/
theorem ordM_right {xs : List Mv} (h : MV xs) : irB (stL (ordM xs)) xs = true := by
  refine right_of_run (ordM_valid h) h fun p hp => ?_
  rw [ordM_yes h]
  exact ordF_due 19 _ nmT (busyF_Wt h) busy_mu (busy_due h) p hp
end Go.PM
namespace Go.PM
open Go.RowKit
/-- place p is the first one of a ring of moves that are read once each -/
def Clo (ws : List Mv) (p : Nat) : Prop := ∃ (n : Nat) (o : Nat → ByteArray), 0 < n ∧ o 0 = nm p ∧ o n = nm p ∧ ∀ k, k < n → (o k, o (k + 1)) ∈ ws ∧ rdN ws (o k) = 1 ∧ p ≤ pidx (o k)
theorem ring_wrap {o : Nat → ByteArray} {n k : Nat} (_h0 : 0 < n) (e : o n = o 0) (hk : k < n) : ∃ j, j < n ∧ o (k + 1) = o j := by
  by_cases h : k + 1 < n
  · exact ⟨k + 1, h, rfl⟩
  · exact ⟨0, by omega, by rw [show k + 1 = n by omega, e]⟩
theorem ring_prev {o : Nat → ByteArray} {n k : Nat} (h0 : 0 < n) (e : o n = o 0) (hk : k < n) : ∃ j, j < n ∧ o (j + 1) = o k := by
  by_cases h : k = 0
  · exact ⟨n - 1, by omega, by rw [show n - 1 + 1 = n by omega, e, h]⟩
  · exact ⟨k - 1, by omega, by rw [show k - 1 + 1 = k by omega]⟩
theorem one_reader {ws : List Mv} {a : ByteArray} (h : rdN ws a = 1) {x y : Mv} (hx : x ∈ ws) (hy : y ∈ ws) (ex : x.2 = a) (ey : y.2 = a) : x = y := by
  obtain ⟨i, hi, rfl⟩ := List.getElem_of_mem hx
  have h1 := rdN_erase ws i hi a
  rw [if_pos ex, h] at h1
  have h2 := rdN_zero.1 (show rdN (ws.eraseIdx i) a = 0 by omega)
  rcases erase_or hi hy with e | e
  · exact e.symm
  · exact absurd ey (h2 y e)
theorem redM_rdN {ws : List Mv} {m : Mv} (hne : m.1 ≠ m.2) {a : ByteArray} (h1 : a ≠ m.1) (h2 : a ≠ m.2) : rdN (redM m ws) a = rdN ws a := by
  unfold redM; split
  · rfl
  · exact (instM_rdN m.2 m.1 hne ws).2.2 a h2 h1
/-- a ring of moves that are read once each is what it was when one is done that can be done ahead of all others -/
theorem Clo.some_ {ws : List Mv} (hw : Wt ws) {i : Nat} (hi : i < ws.length) (hf : rdN ws ws[i].1 = 0) (p : Nat) : Clo (redM ws[i] (ws.eraseIdx i)) p ↔ Clo ws p := by
  have hm := List.getElem_mem hi
  have hne := hw.ne _ hm
  have hk1 := erase_key hw.keys hi
  constructor
  · rintro ⟨n, o, hn, e0, en, h⟩
    have een : o n = o 0 := en.trans e0.symm
    have hkey : ∀ k, k < n → (∃ x ∈ ws.eraseIdx i, x.1 = o k) := fun k hk => by
      have h1 := List.mem_map_of_mem (f := (·.1)) (h k hk).1
      rw [redM_keys] at h1
      obtain ⟨x, hx, e⟩ := List.mem_map.1 h1
      exact ⟨x, hx, e⟩
    have hnk : ∀ k, k < n → o k ≠ ws[i].1 := fun k hk e => by
      obtain ⟨x, hx, ex⟩ := hkey k hk
      exact hk1 x hx (ex.trans e)
    have hnm : ∀ k, k < n → o k ≠ ws[i].2 := fun k hk e => by
      obtain ⟨x, hx, ex⟩ := hkey k hk
      have hp := hw.to_ x (erase_mem hx)
      rw [ex, e] at hp
      have hr := (h k hk).2.1
      unfold redM at hr
      rw [if_neg (by rw [(isP_cases hp).1]; decide), e, (instM_rdN ws[i].2 ws[i].1 hne _).1] at hr
      cases hr
    refine ⟨n, o, hn, e0, en, fun k hk => ⟨?_, ?_, (h k hk).2.2⟩⟩
    · have hmem := (h k hk).1
      obtain ⟨j, hj, ej⟩ := ring_wrap hn een hk
      unfold redM at hmem
      split at hmem
      · exact erase_mem hmem
      · obtain ⟨x, hx, e1, (⟨e2, e3⟩ | ⟨e2, e3⟩)⟩ := instM_mem hmem
        · exact absurd (ej ▸ e3) (hnk j hj)
        · rw [e3]; exact erase_mem hx
    · have hr := (h k hk).2.1
      rw [redM_rdN hne (hnk k hk) (hnm k hk)] at hr
      rw [rdN_erase ws i hi, hr, if_neg (fun e => hnm k hk e.symm)]
  · rintro ⟨n, o, hn, e0, en, h⟩
    have een : o n = o 0 := en.trans e0.symm
    have hnk : ∀ k, k < n → o k ≠ ws[i].1 := fun k hk e => by
      have := (h k hk).2.1
      rw [e, hf] at this; cases this
    have hnm : ∀ k, k < n → o k ≠ ws[i].2 := fun k hk e => by
      obtain ⟨j, hj, ej⟩ := ring_prev hn een hk
      have := one_reader (h k hk).2.1 (h j hj).1 hm ej e.symm
      exact hnk j hj (by rw [← this])
    refine ⟨n, o, hn, e0, en, fun k hk => ⟨?_, ?_, (h k hk).2.2⟩⟩
    · have hmem : (o k, o (k + 1)) ∈ ws.eraseIdx i := by
        rcases erase_or hi (h k hk).1 with e | e
        · exact absurd (by rw [← e]) (hnk k hk)
        · exact e
      obtain ⟨j, hj, ej⟩ := ring_wrap hn een hk
      unfold redM
      split
      · exact hmem
      · unfold instM
        refine List.mem_map.2 ⟨_, hmem, ?_⟩
        rw [if_neg]
        show ¬ o (k + 1) = _
        rw [ej]; exact hnm j hj
    · rw [redM_rdN hne (hnk k hk) (hnm k hk)]
      have := rdN_erase ws i hi (o k)
      rw [if_neg (fun e => hnm k hk e.symm), (h k hk).2.1] at this
      omega
/-- the moves stand in the order of their places -/
def Srt (ws : List Mv) : Prop := ws.Pairwise fun a b => pidx a.1 < pidx b.1
theorem Srt.of_keys {ws vs : List Mv} (h : Srt ws) (e : vs.map (·.1) = ws.map (·.1)) : Srt vs := by
  have h1 : (ws.map (·.1)).Pairwise fun a b => pidx a < pidx b := List.pairwise_map.2 h
  rw [← e] at h1
  exact (List.pairwise_map (f := fun m : Mv => m.1) (R := fun a b => pidx a < pidx b)).1 h1
theorem Srt.erase {ws : List Mv} (h : Srt ws) (i : Nat) : Srt (ws.eraseIdx i) := List.Pairwise.sublist (List.eraseIdx_sublist ws i) h
theorem Srt.first {ws : List Mv} (h : Srt ws) (h0 : 0 < ws.length) : ∀ m ∈ ws, pidx ws[0].1 ≤ pidx m.1 := by
  cases ws with
  | nil => simp at h0
  | cons x xs =>
    intro m hm
    rw [List.mem_cons] at hm
    rcases hm with rfl | hm
    · exact Nat.le_refl _
    · exact Nat.le_of_lt ((List.pairwise_cons.1 h).1 m hm)
theorem pidx_inj {a b : ByteArray} (ha : isP a = true) (hb : isP b = true) (e : pidx a = pidx b) : a = b := by
  rw [← (pidx_spec ha).2, e, (pidx_spec hb).2]
theorem Clo.none_other {ws : List Mv} (hw : Wt ws) (hs : Srt ws) (h0 : 0 < ws.length) (hn : aheadI ws = none) {p : Nat} (hp : nm p ≠ ws[0].1) (hp9 : p < 9) : Clo (redM (spT, ws[0].1) ws) p ↔ Clo ws p := by
  obtain ⟨f1, f2, f3⟩ := hw.full hn
  have hm := List.getElem_mem h0
  have hc := isP_cases (hw.to_ _ hm)
  have hne : (spT : ByteArray) ≠ ws[0].1 := fun e => hc.2 e.symm
  have hr : redM (spT, ws[0].1) ws = instM ws[0].1 spT ws := by
    unfold redM; rw [if_neg (by show ¬ isD ws[0].1 = true; rw [hc.1]; decide)]
  rw [hr]
  obtain ⟨r1, _, r3⟩ := instM_rdN ws[0].1 spT hne ws
  constructor
  · rintro ⟨n, o, hn', e0, en, h⟩
    have een : o n = o 0 := en.trans e0.symm
    have hkey : ∀ k, k < n → (∃ x ∈ ws, x.1 = o k) := fun k hk => by
      have h1 := List.mem_map_of_mem (f := (·.1)) (h k hk).1
      rw [instM_keys] at h1
      obtain ⟨x, hx, e⟩ := List.mem_map.1 h1
      exact ⟨x, hx, e⟩
    have hnt : ∀ k, k < n → o k ≠ spT := fun k hk e => by
      obtain ⟨x, hx, ex⟩ := hkey k hk
      exact (isP_cases (hw.to_ x hx)).2 (ex.trans e)
    have hnm : ∀ k, k < n → o k ≠ ws[0].1 := fun k hk e => by
      have := (h k hk).2.1
      rw [e, r1] at this; cases this
    refine ⟨n, o, hn', e0, en, fun k hk => ⟨?_, ?_, (h k hk).2.2⟩⟩
    · obtain ⟨j, hj, ej⟩ := ring_wrap hn' een hk
      obtain ⟨x, hx, e1, (⟨e2, e3⟩ | ⟨e2, e3⟩)⟩ := instM_mem (h k hk).1
      · exact absurd (ej ▸ e3) (hnt j hj)
      · rw [e3]; exact hx
    · have := (h k hk).2.1
      rwa [r3 _ (hnm k hk) (hnt k hk)] at this
  · rintro ⟨n, o, hn', e0, en, h⟩
    have een : o n = o 0 := en.trans e0.symm
    have hnm : ∀ k, k < n → o k ≠ ws[0].1 := fun k hk e => by
      have h1 := (h k hk).2.2
      have h2 := hs.first h0 _ (h 0 hn').1
      simp only [e0, pidx_nm hp9] at h2
      rw [e] at h1
      exact hp (pidx_inj (isP_nm hp9) (hw.to_ _ hm) (by rw [pidx_nm hp9]; omega))
    have hnt : ∀ k, k < n → o k ≠ spT := fun k hk e => by
      exact (isP_cases (hw.to_ _ (h k hk).1)).2 e
    refine ⟨n, o, hn', e0, en, fun k hk => ⟨?_, ?_, (h k hk).2.2⟩⟩
    · obtain ⟨j, hj, ej⟩ := ring_wrap hn' een hk
      unfold instM
      refine List.mem_map.2 ⟨_, (h k hk).1, ?_⟩
      rw [if_neg]
      show ¬ o (k + 1) = _
      rw [ej]; exact hnm j hj
    · rw [r3 _ (hnm k hk) (hnt k hk)]; exact (h k hk).2.1
theorem pigeon : ∀ (n : Nat) (f : Nat → Nat), (∀ k, k ≤ n → f k < n) → ∃ i j, i < j ∧ j ≤ n ∧ f i = f j := by
  intro n f h
  refine Classical.byContradiction fun hno => ?_
  have hnd : ((List.range (n + 1)).map f).Nodup := by
    rw [List.nodup_iff_pairwise_ne, List.pairwise_map]
    refine List.Pairwise.imp_of_mem ?_ (List.pairwise_lt_range (n := n + 1))
    intro a b _ hb hab e
    exact hno ⟨a, b, hab, by have := List.mem_range.1 hb; omega, e⟩
  have := nodup_le ((List.range (n + 1)).map f) (List.range n) hnd (fun a ha => by
    obtain ⟨k, hk, rfl⟩ := List.mem_map.1 ha
    exact List.mem_range.2 (h k (by have := List.mem_range.1 hk; omega)))
  simp at this
  omega
theorem Clo.none_self {ws : List Mv} (hw : Wt ws) (hs : Srt ws) (h0 : 0 < ws.length) (hn : aheadI ws = none) : Clo ws (pidx ws[0].1) ∧ ¬ Clo (redM (spT, ws[0].1) ws) (pidx ws[0].1) := by
  obtain ⟨f1, f2, f3⟩ := hw.full hn
  have hm := List.getElem_mem h0
  have hP := hw.to_ _ hm
  have hc := isP_cases hP
  have hne : (spT : ByteArray) ≠ ws[0].1 := fun e => hc.2 e.symm
  have hnm := (pidx_spec hP).2
  constructor
  · -- go round
    let nx : ByteArray → ByteArray := fun a => srcM ws a
    have hMV : MV ws := ⟨fun m hm => by
      unfold mok isS
      rw [hw.to_ m hm, Bool.true_and, Bool.or_eq_true]
      rcases hw.from_ m hm with h | h | h
      · exact .inl h
      · exact .inr h
      · exact absurd h (rdN_zero.1 f3 m hm), hw.keys⟩
    have hnx : ∀ m ∈ ws, nx m.1 = m.2 := fun m hm => srcM_of_mem hMV hm
    obtain ⟨o, ho0, hos⟩ : ∃ o : Nat → ByteArray, o 0 = ws[0].1 ∧ ∀ k, o (k + 1) = nx (o k) := ⟨fun k => Nat.rec ws[0].1 (fun _ a => nx a) k, rfl, fun _ => rfl⟩
    have hin : ∀ k, (o k, o (k + 1)) ∈ ws := by
      intro k
      induction k with
      | zero =>
        rw [hos, ho0, hnx _ hm]; exact hm
      | succ k ih =>
        obtain ⟨x, hx, ex⟩ := f2 _ ih
        have e1 : x.1 = o (k + 1) := ex
        rw [hos (k + 1), ← e1, hnx x hx]; exact hx
    have hisP : ∀ k, isP (o k) = true := fun k => hw.to_ _ (hin k)
    obtain ⟨i, j, hij, hj, e⟩ := pigeon 9 (fun k => pidx (o k)) (fun k _ => (pidx_spec (hisP k)).1)
    have e' : o i = o j := pidx_inj (hisP i) (hisP j) e
    have back : ∀ d, d ≤ i → o (i - d) = o (j - d) := by
      intro d
      induction d with
      | zero => intro _; exact e'
      | succ d ih =>
        intro hd
        have h1 := ih (by omega)
        have a1 := hin (i - (d + 1))
        have a2 := hin (j - (d + 1))
        have a3 := hin (i - d)
        rw [show i - (d + 1) + 1 = i - d by omega] at a1
        rw [show j - (d + 1) + 1 = j - d by omega, ← h1] at a2
        have := one_reader (f1 _ a3) a1 a2 rfl rfl
        exact congrArg (·.1) this
    have e0 := back i (Nat.le_refl _)
    rw [Nat.sub_self] at e0
    refine ⟨j - i, o, by omega, ho0.trans hnm.symm, by rw [← e0, ho0, hnm], fun k hk => ⟨hin k, f1 _ (hin k), hs.first h0 _ (hin k)⟩⟩
  · rintro ⟨n, o, hn', e0, en, h⟩
    have hr : redM (spT, ws[0].1) ws = instM ws[0].1 spT ws := by
      unfold redM; rw [if_neg (by show ¬ isD ws[0].1 = true; rw [hc.1]; decide)]
    have := (h 0 hn').2.1
    rw [e0, hnm, hr, (instM_rdN ws[0].1 spT hne ws).1] at this
    cases this
noncomputable def cloB (ws : List Mv) (p : Nat) : Bool := @decide (Clo ws p) (Classical.propDecidable _)
theorem cloB_iff {ws : List Mv} {p : Nat} : cloB ws p = true ↔ Clo ws p := @decide_eq_true_iff _ (Classical.propDecidable _)
theorem cloB_no {ws : List Mv} {p : Nat} : cloB ws p = false ↔ ¬ Clo ws p := @decide_eq_false_iff_not _ (Classical.propDecidable _)
theorem cloB_eq {ws vs : List Mv} {p : Nat} (h : Clo ws p ↔ Clo vs p) : cloB ws p = cloB vs p := by
  rw [Bool.eq_iff_iff, cloB_iff, cloB_iff]; exact h
noncomputable def cloN (ws : List Mv) : Nat := ((List.range 9).filter (cloB ws)).length
theorem cloN_congr {ws vs : List Mv} (h : ∀ p, p < 9 → (Clo ws p ↔ Clo vs p)) : cloN ws = cloN vs := by
  unfold cloN
  congr 1
  exact List.filter_congr fun p hp => cloB_eq (h p (List.mem_range.1 hp))
theorem filter_less {α : Type _} [DecidableEq α] (P Q : α → Bool) (a : α) : ∀ l : List α, l.Nodup → a ∈ l → P a = true → Q a = false → (∀ b ∈ l, b ≠ a → Q b = P b) → (l.filter P).length = (l.filter Q).length + 1
  | [], _, h, _, _, _ => by cases h
  | x :: l, hn, ha, hP, hQ, hb => by
    rw [List.nodup_cons] at hn
    by_cases e : x = a
    · subst e
      have e2 : l.filter P = l.filter Q := List.filter_congr fun b hbm => ((hb b (by simp [hbm])) fun e => hn.1 (e ▸ hbm)).symm
      simp [hP, hQ, e2]
    · have ha' : a ∈ l := by
        rw [List.mem_cons] at ha
        exact ha.resolve_left fun e' => e e'.symm
      have ih := filter_less P Q a l hn.2 ha' hP hQ fun b hbm => hb b (by simp [hbm])
      have hx := hb x (by simp) e
      rw [List.filter_cons, List.filter_cons, hx]
      split
      · simp only [List.length_cons]; omega
      · exact ih
/-- an order takes a step for each move and one for each closed ring -/
theorem ordF_count : ∀ (n : Nat) (ws : List Mv), Wt ws → Srt ws → muW ws ≤ n → (ordF n ws).length = ws.length + cloN ws ∧ ((ordF n ws).any (fun m => decide (m.1 = spT)) = decide (0 < cloN ws)) := by
  have hz : cloN [] = 0 := by
    unfold cloN
    rw [List.length_eq_zero_iff, List.filter_eq_nil_iff]
    intro p _ h
    obtain ⟨n, o, hn, _, _, h⟩ := cloB_iff.1 h
    cases (h 0 hn).1
  intro n
  induction n with
  | zero =>
    intro ws _ _ hmu
    have : ws = [] := List.length_eq_zero_iff.1 (by unfold muW at hmu; omega)
    subst this
    rw [hz]; exact ⟨rfl, rfl⟩
  | succ n ih =>
    intro ws hw hs hmu
    by_cases h0 : 0 < ws.length
    · cases ha : aheadI ws with
      | some i =>
        obtain ⟨hi, hf⟩ := aheadI_some ha
        have e := cloN_congr fun p _ => Clo.some_ hw hi hf p
        obtain ⟨i1, i2⟩ := ih _ (hw.some_ hi hf) ((hs.erase i).of_keys (redM_keys _ _)) (by have := muW_some hi ws[i]; omega)
        rw [e, redM_len, List.length_eraseIdx_of_lt hi] at i1
        rw [e] at i2
        rw [ordF_some hi ha, List.length_cons, List.any_cons, i2, i1]
        refine ⟨by omega, ?_⟩
        have : ¬ ws[i].1 = spT := (isP_cases (hw.to_ _ (List.getElem_mem hi))).2
        simp [this]
      | none =>
        have hself := Clo.none_self hw hs h0 ha
        have hP := hw.to_ _ (List.getElem_mem h0)
        have hp := pidx_spec hP
        have e : cloN ws = cloN (redM (spT, ws[0].1) ws) + 1 := by
          unfold cloN
          refine filter_less _ _ (pidx ws[0].1) _ List.nodup_range (List.mem_range.2 hp.1) (cloB_iff.2 hself.1) (cloB_no.2 hself.2) fun b hb hne => ?_
          have hb9 := List.mem_range.1 hb
          refine cloB_eq (Clo.none_other hw hs h0 ha (fun e => hne ?_) hb9)
          rw [← e, pidx_nm hb9]
        obtain ⟨i1, _⟩ := ih _ (hw.none_ h0 ha).1 (hs.of_keys (redM_keys _ _)) (by have := muW_none hw h0 ha; omega)
        rw [redM_len] at i1
        rw [ordF_none h0 ha, List.length_cons, List.any_cons, i1]
        refine ⟨by omega, ?_⟩
        have : 0 < cloN ws := by omega
        simp [this]
    · have : ws = [] := List.length_eq_zero_iff.1 (by omega)
      subst this
      rw [ordF_nil, hz]; exact ⟨rfl, rfl⟩
theorem busyF_Srt (xs : List Mv) : Srt (busyF xs 9) := by
  unfold Srt busyF
  rw [List.pairwise_map]
  refine List.Pairwise.imp_of_mem ?_ ((List.pairwise_lt_range (n := 9)).filter (busyH xs))
  intro a b ha hb hab
  have h1 := List.mem_range.1 (List.mem_filter.1 ha).1
  have h2 := List.mem_range.1 (List.mem_filter.1 hb).1
  show pidx (nm a) < pidx (nm b)
  rw [pidx_nm h1, pidx_nm h2]; exact hab
end Go.PM
namespace Go.PM
open Go.RowKit
/-- a move that changes what a later one reads -/
def BadO (x m : Mv) : Prop := x.1 = m.2 ∧ x.2 ≠ m.2 ∧ isD m.2 = false
instance (x m : Mv) : Decidable (BadO x m) := inferInstanceAs (Decidable (_ ∧ _))
def GoodO (xs : List Mv) : Prop := xs.Pairwise fun x m => ¬ BadO x m
instance (xs : List Mv) : Decidable (GoodO xs) := inferInstanceAs (Decidable (List.Pairwise _ _))
def ordB (xs : List Mv) : Bool := mvalid xs && decide (GoodO xs)
theorem GoodO_step (xs : List Mv) (k : Nat) (hk : k < xs.length) : GoodO (xs.take (k + 1)) ↔ GoodO (xs.take k) ∧ ∀ x ∈ xs.take k, ¬ BadO x xs[k] := by
  unfold GoodO
  rw [take_snoc xs k hk, List.pairwise_append]
  simp
theorem GoodO_take {xs : List Mv} (h : GoodO xs) (k : Nat) : GoodO (xs.take k) := List.Pairwise.sublist (List.take_sublist _ _) h
theorem ordB_no {xs : List Mv} {k : Nat} (h : ¬ GoodO (xs.take k)) : ordB xs = false := by
  unfold ordB
  rw [decide_eq_false (fun hg => h (GoodO_take hg k)), Bool.and_false]
/-- which places the moves change -/
def chgF (xs : List Mv) (q : Nat) : Bool := xs.any fun x => decide (x.1 = nm q ∧ x.1 ≠ x.2)
def boolC (f : Nat → Bool) : Array Value := #[.bool (f 0), .bool (f 1), .bool (f 2), .bool (f 3), .bool (f 4), .bool (f 5), .bool (f 6), .bool (f 7), .bool (f 8)]
theorem boolC_at (f : Nat → Bool) (p : Nat) (hp : p < 9) : (boolC f)[p]? = some (.bool (f p)) := by
  match p, hp with
  | 0, _ | 1, _ | 2, _ | 3, _ | 4, _ | 5, _ | 6, _ | 7, _ | 8, _ => rfl
theorem boolC_set (f : Nat → Bool) (p : Nat) (hp : p < 9) (b : Bool) : (boolC f).setIfInBounds p (.bool b) = boolC (fun q => if q = p then b else f q) := by
  match p, hp with
  | 0, _ | 1, _ | 2, _ | 3, _ | 4, _ | 5, _ | 6, _ | 7, _ | 8, _ => simp [boolC]
theorem boolC_congr {f g : Nat → Bool} (h : ∀ p, p < 9 → f p = g p) : boolC f = boolC g := by
  unfold boolC
  rw [h 0 (by omega), h 1 (by omega), h 2 (by omega), h 3 (by omega), h 4 (by omega), h 5 (by omega), h 6 (by omega), h 7 (by omega), h 8 (by omega)]
theorem chgF_step {xs : List Mv} (h : MV xs) (k : Nat) (hk : k < xs.length) : boolC (fun q => if q = pidx xs[k].1 then decide (xs[k].1 ≠ xs[k].2) else chgF (xs.take k) q) = boolC (chgF (xs.take (k + 1))) := by
  have hm := h.1 _ (List.getElem_mem hk)
  unfold mok at hm; rw [Bool.and_eq_true] at hm
  have hp := pidx_spec hm.1
  have hkey := ((MV_step k hk).1 (MV_take h (k + 1))).2.2
  refine boolC_congr fun q hq => ?_
  unfold chgF
  rw [take_snoc xs k hk, List.any_append, List.any_cons, List.any_nil, Bool.or_false]
  by_cases e : q = pidx xs[k].1
  · subst e
    rw [if_pos rfl, hp.2]
    have h0 : (xs.take k).any (fun x => decide (x.1 = xs[k].1 ∧ x.1 ≠ x.2)) = false := by
      rw [List.any_eq_false]
      intro x hx e2
      rw [decide_eq_true_eq] at e2
      exact hkey (List.mem_map.2 ⟨x, hx, e2.1⟩)
    rw [h0, Bool.false_or, decide_eq_decide]
    exact ⟨fun h => ⟨rfl, h⟩, fun h => h.2⟩
  · rw [if_neg e]
    have : decide (xs[k].1 = nm q ∧ xs[k].1 ≠ xs[k].2) = false := by
      rw [decide_eq_false_iff_not]
      intro h2
      exact e (by rw [h2.1, pidx_nm hq])
    rw [this, Bool.or_false]
theorem chg_bad {xs : List Mv} (k : Nat) (hk : k < xs.length) (hp : isP xs[k].2 = true) (hc : chgF (xs.take k) (pidx xs[k].2) = true) : ¬ GoodO (xs.take (k + 1)) := by
  rw [GoodO_step xs k hk]
  rintro ⟨_, h⟩
  unfold chgF at hc
  rw [(pidx_spec hp).2, List.any_eq_true] at hc
  obtain ⟨x, hx, e⟩ := hc
  rw [decide_eq_true_eq] at e
  exact h x hx ⟨e.1, fun e2 => e.2 (e.1.trans e2.symm), (isP_cases hp).1⟩
theorem chg_good {xs : List Mv} (k : Nat) (hk : k < xs.length) (hg : GoodO (xs.take k)) (hc : isP xs[k].2 = true → chgF (xs.take k) (pidx xs[k].2) = false) (hs : isS xs[k].2 = true) : GoodO (xs.take (k + 1)) := by
  rw [GoodO_step xs k hk]
  refine ⟨hg, fun x hx hb => ?_⟩
  unfold isS at hs
  rw [Bool.or_eq_true] at hs
  rcases hs with hp | hd
  · have := hc hp
    unfold chgF at this
    rw [(pidx_spec hp).2, List.any_eq_false] at this
    exact this x hx (by rw [decide_eq_true_eq]; exact ⟨hb.1, fun e => hb.2.1 (e.symm.trans hb.1)⟩)
  · rw [hb.2.2] at hd; cases hd
end Go.PM
namespace Go.Proofs.Ytbgchjjaaelkbaa
open Go.RowKit Go.PM

set_option maxRecDepth 100000 in
set_option maxHeartbeats 1600000 in
theorem imIsOrdered_c (xs : List Mv) (v : Value) (w : World) (hx : RdM w v xs) :
    Calls Try.prog 48 #[v] w fun e w' => e = .returned (.bool (ordB xs)) ∧ Below w.heap.size w w' := by
  have HMV := Lib.hid (imMovesValid_c xs v w hx)
  obtain ⟨A, cap, rfl, hn, hc, hcell⟩ := hx.open
  clear hx
  rcases Bool.eq_false_or_eq_true (mvalid xs) with hm | hm
  · have h1 : MV xs := by simpa [mvalid] using hm
    have HON := Lib.hid (fun k h => ordB_no (xs := xs) (k := k) h)
    have HOY : Hid (GoodO xs → ordB xs = true) := fun h => by unfold ordB; rw [hm, decide_eq_true h]; rfl
    have HST := Lib.hid (fun k hk => chgF_step h1 k hk)
    have HP := Lib.hid (fun m hmm => by have := h1.1 m hmm; unfold mok at this; rw [Bool.and_eq_true] at this; exact this : ∀ m ∈ xs, isP m.1 = true ∧ isS m.2 = true)
    have hz : (#[.bool false, .bool false, .bool false, .bool false, .bool false, .bool false, .bool false, .bool false, .bool false] : Array Value) = boolC (chgF []) := rfl
    have hcall := HMV.out
    rw [hm] at hcall
    clear h1 hm HMV
    go_enter Try.func48, Try.ntmps48
    go_wp2_with fail
    refine hcall.mono ?_
    rintro e w1 ⟨rfl, hb1⟩
    have hs1 := hb1.size
    have hA1 := At.new w1 112 (boolC (chgF []))
    have hB1 := hb1.alloc hs1 (.cells (boolC (chgF [])) 112)
    go_wp2
    clear hz hcall
    go_loopw [5, 6, 7, 8, 9, 15] (fun _ _ _ _ _ i wr => ∃ (k : Nat), k ≤ xs.length ∧ i = .int .i64 k ∧ Below w.heap.size w wr ∧ At wr w1.heap.size 112 (boolC (chgF (xs.take k))) ∧ Hid (GoodO (xs.take k))) (fun _ _ _ _ _ i _ => xs.length - (RowKit.intOf i).toNat)
    case atStart => exact ⟨0, by omega, rfl, hB1, by simpa using hA1, by show GoodO _; simp [GoodO]⟩
    case round =>
      obtain ⟨k, hk, rfl, hb, hA2, hgd⟩ := hrel
      have hbs := hb.size
      have hlt4 := hA2.lt
      clear hA1 hB1
      by_cases hlt : k < xs.length
      · obtain ⟨b, off, rfl, hbl, hc1, hc2⟩ := hcell k hlt
        have hd1 := (hb.cell (p := ⟨b, off + k * 2, none⟩) hbl).trans hc1
        have hd2 := (hb.cell (p := ⟨b, off + k * 2 + 1, none⟩) hbl).trans hc2
        clear hc1 hc2 hcell
        have hP1 := (HP.out _ (List.getElem_mem hlt)).1
        have hS2 := (HP.out _ (List.getElem_mem hlt)).2
        have hp1 := (pidx_spec hP1).1
        have HI1 := Lib.hid (fun W => indexOf_yes _ hP1 W)
        have HCB := Lib.hid (fun hp hc => HON.out (k + 1) (chg_bad (xs := xs) k hlt hp hc))
        have HCG := Lib.hid (fun hc => chg_good (xs := xs) k hlt hgd.out hc hS2)
        have hstep := (boolC_set (chgF (xs.take k)) (pidx xs[k].1) hp1 (decide (xs[k].1 ≠ xs[k].2))).trans (HST.out k hlt)
        have HSTEP := Lib.hid hstep
        have HNE : Hid (decide (xs[k].1 ≠ xs[k].2) = !(xs[k].1.toList == xs[k].2.toList)) := by show _ = _; rw [bne_str]
        have hN := hA2.alloc (.cells #[.string xs[k].1, .string xs[k].2] 33)
        have hat := boolC_at (chgF (xs.take k))
        have i0 : (0 : Int) ≤ (pidx xs[k].1 : Int) := by omega
        have i1 : (pidx xs[k].1 : Int) < 9 := by omega
        clear hP1 hS2 hstep
        generalize xs[k].1 = x1 at *
        generalize hx2 : xs[k].2 = x2 at *
        clear hx2
        generalize pidx x1 = q1 at *
        have c1 := (hN.cell q1).trans (hat q1 hp1)
        have z1 := hN.frozen q1
        rcases Bool.eq_false_or_eq_true (isP x2) with hp2 | hp2
        · have hq9 := (pidx_spec hp2).1
          have HI2 := Lib.hid (fun W => indexOf_yes _ hp2 W)
          have j0 : (0 : Int) ≤ (pidx x2 : Int) := by omega
          have j1 : (pidx x2 : Int) < 9 := by omega
          have c2 := (hN.cell (pidx x2)).trans (hat _ hq9)
          have HCB2 := Lib.hid (HCB.out hp2)
          have HCG2 := Lib.hid (fun h => HCG.out (fun _ => h))
          clear HCB HCG
          generalize pidx x2 = q2 at *
          generalize chgF (xs.take k) q2 = cq at *
          cases cq with
          | true =>
            have HF := Lib.hid (HCB2.out rfl)
            go_wp2_with (go_at_call 103; with_reducible refine (HI2.out _).mono ?_; rintro e w' ⟨rfl, rfl⟩)
            go_ret
            exact ⟨by rw [HF.out]; rfl, by (repeat' (first | (with_reducible exact Below.refl _ _) | (with_reducible assumption) | (with_reducible refine Below.alloc ?_ ?_ _) | (with_reducible refine Below.drew ?_) | (with_reducible refine Below.setCell ?_ ?_ _) | (with_reducible exact Nat.le_refl _) | omega | ((repeat (first | rewrite [World.size_alloc] | rewrite [World.size_setCell] | rewrite [World.size_drew])); omega) | (simp; omega) | (simp; done)))⟩
          | false =>
            have HG := HCG2.out rfl
            go_wp2_with (first | (go_at_call 103; with_reducible refine (HI2.out _).mono ?_; rintro e w' ⟨rfl, rfl⟩) | (go_at_call 103; with_reducible refine (HI1.out _).mono ?_; rintro e w' ⟨rfl, rfl⟩))
            go_roundw
            case rel =>
              refine ⟨k + 1, by omega, by go_num, by (repeat' (first | (with_reducible exact Below.refl _ _) | (with_reducible assumption) | (with_reducible refine Below.alloc ?_ ?_ _) | (with_reducible refine Below.drew ?_) | (with_reducible refine Below.setCell ?_ ?_ _) | (with_reducible exact Nat.le_refl _) | omega | ((repeat (first | rewrite [World.size_alloc] | rewrite [World.size_setCell] | rewrite [World.size_drew])); omega) | (simp; omega) | (simp; done))), ?_, HG⟩
              rw [← HSTEP.out, HNE.out]
              exact (hA2.set q1 _).alloc _
            case measure => simp [RowKit.intOf]; omega
        · have HI2 := Lib.hid (fun W => indexOf_no _ hp2 W)
          have HG := HCG.out (fun h => by rw [hp2] at h; cases h)
          go_wp2_with (first | (go_at_call 103; with_reducible refine (HI2.out _).mono ?_; rintro e w' ⟨rfl, rfl⟩) | (go_at_call 103; with_reducible refine (HI1.out _).mono ?_; rintro e w' ⟨rfl, rfl⟩))
          go_roundw
          case rel =>
            refine ⟨k + 1, by omega, by go_num, by (repeat' (first | (with_reducible exact Below.refl _ _) | (with_reducible assumption) | (with_reducible refine Below.alloc ?_ ?_ _) | (with_reducible refine Below.drew ?_) | (with_reducible refine Below.setCell ?_ ?_ _) | (with_reducible exact Nat.le_refl _) | omega | ((repeat (first | rewrite [World.size_alloc] | rewrite [World.size_setCell] | rewrite [World.size_drew])); omega) | (simp; omega) | (simp; done))), ?_, HG⟩
            rw [← HSTEP.out, HNE.out]
            exact (hA2.set q1 _).alloc _
          case measure => simp [RowKit.intOf]; omega
      · have hk' : k = xs.length := by omega
        have hgg := hgd.out
        rw [hk', List.take_of_length_le (Nat.le_refl _)] at hgg
        have HT := Lib.hid (HOY.out hgg)
        clear hgg hk' hcell
        go_wp2
        go_ret
        exact ⟨by rw [HT.out]; rfl, hb⟩
  · have HF : Hid (ordB xs = false) := by show _ = _; unfold ordB; rw [hm]; rfl
    have hcall := HMV.out
    rw [hm] at hcall
    clear HMV hcell
    go_enter Try.func48, Try.ntmps48
    go_wp2_with fail
    refine hcall.mono ?_
    rintro e w1 ⟨rfl, hb1⟩
    clear hcall
    go_wp2
    go_ret
    exact ⟨by rw [HF.out]; rfl, hb1⟩
set_option maxRecDepth 100000 in
set_option maxHeartbeats 1600000 in
theorem spIsOrdered_c (xs : List Mv) (v : Value) (w : World) (hx : RdM w v xs) (hz : ∀ m ∈ xs, m.1.size ≤ 9223372036854775807 ∧ m.2.size ≤ 9223372036854775807) (hn' : xs.length ≤ 1048576) :
    Calls Try.prog 49 #[v] w fun e w' => e = .returned (.bool (ordB xs)) ∧ Below w.heap.size w w' := by
  have HMV := Lib.hid (fun W (hW : Below w.heap.size w W) => spMovesValid_c xs v W (hx.below hW) hz hn')
  obtain ⟨A, cap, rfl, hn, hc, hcell⟩ := hx.open
  have HON := Lib.hid (fun k h => ordB_no (xs := xs) (k := k) h)
  have HOY : Hid (GoodO xs → ordB xs = mvalid xs) := fun h => by unfold ordB; rw [decide_eq_true h, Bool.and_true]
  have HCELL := Lib.hid hcell
  clear hx hz
  go_enter Try.func49, Try.ntmps49
  go_wp2
  go_loopw [3, 4, 6, 9] (fun _ _ _ i wr => ∃ (k : Nat), k ≤ xs.length ∧ i = .int .i64 k ∧ Below w.heap.size w wr ∧ Hid (GoodO (xs.take k))) (fun _ _ _ i _ => xs.length - (RowKit.intOf i).toNat)
  case atStart => exact ⟨0, by omega, rfl, Below.refl _ _, by show GoodO _; simp [GoodO]⟩
  case round =>
    obtain ⟨k, hk, rfl, hb, hgd⟩ := hrel
    have hbs := hb.size
    by_cases hlt : k < xs.length
    · obtain ⟨b, off, rfl, hbl, hc1, hc2⟩ := hcell k hlt
      have hd1 := (hb.cell (p := ⟨b, off + k * 2, none⟩) hbl).trans hc1
      have hd2 := (hb.cell (p := ⟨b, off + k * 2 + 1, none⟩) hbl).trans hc2
      have hxj : ∀ j (hj : j < xs.length), w.cell? ⟨b, off + j * 2, none⟩ = some (.string xs[j].1) ∧ w.cell? ⟨b, off + j * 2 + 1, none⟩ = some (.string xs[j].2) := fun j hj => by
        obtain ⟨b', off', e, _, q1, q2⟩ := hcell j hj
        cases e; exact ⟨q1, q2⟩
      have HXJ := Lib.hid hxj
      have HGS := Lib.hid (GoodO_step xs k hlt)
      have HNO := Lib.hid (fun h => HON.out (k + 1) h)
      have hN := At.new wr 33 #[.string xs[k].1, .string xs[k].2]
      have hB1 := hb.alloc hbs (.cells #[.string xs[k].1, .string xs[k].2] 33)
      have i0 : (0 : Int) ≤ (k : Int) := by omega
      have i1 : (k : Int) ≤ (xs.length : Int) := by omega
      have i2 : (k : Int) ≤ (cap : Int) := by omega
      have i3 : k ≤ cap := by omega
      clear hc1 hc2 hcell hxj
      rcases Bool.eq_false_or_eq_true (isD xs[k].2) with hdg | hdg
      · have hg2 : Hid (GoodO (xs.take (k + 1))) := HGS.out.2 ⟨hgd.out, fun x _ hbad => by rw [hbad.2.2] at hdg; cases hdg⟩
        clear hN
        generalize xs[k].1 = x1 at *
        generalize xs[k].2 = x2 at *
        go_wp2_with (go_at_call 104; refine (l1Digit_c _ _).mono ?_; rintro e w' ⟨rfl, rfl⟩)
        go_roundw
        case rel => exact ⟨k + 1, by omega, by go_num, hB1, hg2⟩
        case measure => simp [RowKit.intOf]; omega
      · have HBD : Hid (∀ j (hj : j < xs.length), (BadO xs[j] xs[k] ↔ xs[j].1 = xs[k].2 ∧ xs[j].2 ≠ xs[k].2)) := fun j hj => ⟨fun h => ⟨h.1, h.2.1⟩, fun h => ⟨h.1, h.2, hdg⟩⟩
        have HALL : Hid ((∀ j (hj : j < k), ¬ BadO xs[j] xs[k]) → GoodO (xs.take (k + 1))) := fun h => HGS.out.2 ⟨hgd.out, fun x hx => by
          obtain ⟨j, hj, rfl⟩ := List.getElem_of_mem hx
          rw [List.getElem_take]
          exact h j (by rw [List.length_take] at hj; omega)⟩
        have HBAD : Hid (∀ j (hj : j < k), BadO xs[j] xs[k] → ordB xs = false) := fun j hj hbad => HNO.out fun hg => by
          have := (HGS.out.1 hg).2 xs[j] (List.mem_take_iff_getElem.2 ⟨j, by omega, rfl⟩)
          exact this hbad
        generalize hx1 : xs[k].1 = x1 at *
        generalize hx2 : xs[k].2 = x2 at *
        clear hx1 hx2
        rename World => wo
        go_wp2_with (go_at_call 104; refine (l1Digit_c _ _).mono ?_; rintro e w' ⟨rfl, rfl⟩)
        go_loopw [6, 21] (fun _ i wr => ∃ (j : Nat), j ≤ k ∧ i = .int .i64 j ∧ Below w.heap.size w wr ∧ At wr wo.heap.size 33 #[.string x1, .string x2] ∧ Hid (∀ q (hq : q < j) (hq2 : q < xs.length) (hk2 : k < xs.length), ¬ BadO xs[q] xs[k])) (fun _ i _ => k - (RowKit.intOf i).toNat)
        case atStart => exact ⟨0, by omega, rfl, hB1, hN, fun q hq => by omega⟩
        case round =>
          obtain ⟨j, hj, rfl, hb2, hN2, hq⟩ := hrel
          have hbs2 := hb2.size
          have hl2 := hN2.lt
          by_cases hjk : j < k
          · have hjl : j < xs.length := by omega
            have e1 := (hb2.cell (p := ⟨b, off + j * 2, none⟩) hbl).trans (HXJ.out j hjl).1
            have e2 := (hb2.cell (p := ⟨b, off + j * 2 + 1, none⟩) hbl).trans (HXJ.out j hjl).2
            have m1 : wr.cell? ⟨wo.heap.size, 0, none⟩ = some (.string x1) := hN2.cell 0
            have m2 : wr.cell? ⟨wo.heap.size, 1, none⟩ = some (.string x2) := hN2.cell 1
            have HB1 := Lib.hid (HBD.out j hjl)
            have HB2 := Lib.hid (HBAD.out j hjk)
            have HQN : Hid (¬ BadO xs[j] xs[k] → ∀ q (hq : q < j + 1) (hq2 : q < xs.length) (hk2 : k < xs.length), ¬ BadO xs[q] xs[k]) := fun h q hq1 hq2 hk2 => by
              by_cases e : q = j
              · subst e; exact h
              · exact hq.out q (by omega) hq2 hk2
            have hBn := hb2.alloc hbs2 (.cells #[.string xs[j].1, .string xs[j].2] 33)
            have hNn := hN2.alloc (.cells #[.string xs[j].1, .string xs[j].2] 33)
            have j1 : (j : Int) < (k : Int) := by omega
            generalize hbx : BadO xs[j] xs[k] = bx at *
            clear hbx
            generalize xs[j].1 = y1 at *
            generalize xs[j].2 = y2 at *
            rcases Bool.eq_false_or_eq_true (y1.toList == x2.toList) with hd | hd
            · have hd' := hd
              rw [beq_str, decide_eq_true_eq] at hd'
              have HD := Lib.hid hd'
              clear hd'
              rcases Bool.eq_false_or_eq_true (y2.toList == x2.toList) with hf | hf
              · have hf' := hf
                rw [beq_str, decide_eq_true_eq] at hf'
                have hnb : ¬ bx := fun h => by have := HB1.out.1 h; exact this.2 hf'
                have HQ2 := Lib.hid (HQN.out hnb)
                clear hf' hnb
                go_wp2
                go_roundw
                case rel => exact ⟨j + 1, by omega, by go_num, hBn, hNn, HQ2.out⟩
                case measure => simp [RowKit.intOf]; omega
              · have hf' := hf
                rw [beq_str, decide_eq_false_iff_not] at hf'
                have hyb : bx := HB1.out.2 ⟨HD.out, hf'⟩
                have HF := Lib.hid (HB2.out hyb)
                clear hf' hyb
                go_wp2
                go_ret
                exact ⟨by rw [HF.out]; rfl, hBn⟩
            · have hd' := hd
              rw [beq_str, decide_eq_false_iff_not] at hd'
              have hnb : ¬ bx := fun h => by have := HB1.out.1 h; exact hd' this.1
              have HQ2 := Lib.hid (HQN.out hnb)
              clear hd' hnb
              go_wp2
              go_roundw
              case rel => exact ⟨j + 1, by omega, by go_num, hBn, hNn, HQ2.out⟩
              case measure => simp [RowKit.intOf]; omega
          · have hjk' : j = k := by omega
            subst hjk'
            have hg2 := HALL.out fun q hq1 => hq.out q hq1 (by omega) hlt
            have HG2 := Lib.hid hg2
            clear hg2
            go_wp2
            go_roundw
            case rel => exact ⟨j + 1, by omega, by go_num, hb2, HG2.out⟩
            case measure => simp [RowKit.intOf]; omega
    · have hk' : k = xs.length := by omega
      have hgg := hgd.out
      rw [hk', List.take_of_length_le (Nat.le_refl _)] at hgg
      have HT := Lib.hid (HOY.out hgg)
      have hmv := HMV.out _ hb
      clear hgg hk' hcell
      go_wp2_with (go_at_call 73; refine hmv.mono ?_; rintro e w2 ⟨rfl, hb2⟩)
      go_ret
      exact ⟨by rw [HT.out]; rfl, hb.trans (hb2.mono hbs)⟩
end Go.Proofs.Ytbgchjjaaelkbaa
namespace Go.PW

/-- the chain from s on: nx says whence a value comes, none where it stays -/
def orb (nx : Nat → Option Nat) (s : Nat) : Nat → Option Nat
  | 0 => some s
  | k + 1 => (orb nx s k).bind nx
def wayF (nx : Nat → Option Nat) : Nat → List Nat → Option Nat → List Nat
  | 0, acc, _ => acc
  | _ + 1, acc, none => acc
  | n + 1, acc, some i => if i ∈ acc then acc else wayF nx n (acc ++ [i]) (nx i)
def way (nx : Nat → Option Nat) (s : Nat) : List Nat := wayF nx 20 [] (some s)
structure Nice (nx : Nat → Option Nat) : Prop where
  lt : ∀ i j, nx i = some j → j < 19
  irr : ∀ i, nx i ≠ some i
  low : ∀ i j, nx i = some j → i < 9

variable {nx : Nat → Option Nat}
theorem nodup_le : ∀ (l : List Nat) (n : Nat), l.Nodup → (∀ a ∈ l, a < n) → l.length ≤ n := by
  intro l n h1 h2
  have := Go.PM.nodup_le l (List.range n) h1 (fun a ha => List.mem_range.2 (h2 a ha))
  simpa using this

/-- what an accumulator of the way holds -/
structure Acc (nx : Nat → Option Nat) (s : Nat) (acc : List Nat) : Prop where
  at_ : ∀ j, j < acc.length → acc[j]? = orb nx s j
  nodup : acc.Nodup
  lt : ∀ a ∈ acc, a < 19
theorem Acc.nil (s : Nat) : Acc nx s [] := ⟨fun j h => by simp at h, List.nodup_nil, fun a h => by simp at h⟩
theorem orb_lt (hn : Nice nx) {s : Nat} (hs : s < 19) : ∀ k i, orb nx s k = some i → i < 19 := by
  intro k i h
  cases k with
  | zero => simp only [orb, Option.some.injEq] at h; omega
  | succ k =>
    simp only [orb, Option.bind_eq_some_iff] at h
    obtain ⟨j, _, h⟩ := h
    exact hn.lt j i h
theorem Acc.snoc (hn : Nice nx) {s : Nat} (hs : s < 19) {acc : List Nat} (h : Acc nx s acc) {i : Nat} (hi : orb nx s acc.length = some i) (hm : i ∉ acc) : Acc nx s (acc ++ [i]) := by
  refine ⟨fun j hj => ?_, ?_, fun a ha => ?_⟩
  · rcases Nat.lt_or_ge j acc.length with h1 | h1
    · rw [List.getElem?_append_left h1]; exact h.at_ j h1
    · have : j = acc.length := by simp at hj; omega
      subst this
      rw [List.getElem?_append_right (by omega)]; simp [hi]
  · rw [List.nodup_append]
    exact ⟨h.nodup, by simp, fun a ha b hb e => by simp at hb; subst hb; subst e; exact hm ha⟩
  · rw [List.mem_append] at ha
    rcases ha with ha | ha
    · exact h.lt a ha
    · simp at ha; subst ha; exact orb_lt hn hs _ _ hi
theorem Acc.len {s : Nat} {acc : List Nat} (h : Acc nx s acc) : acc.length ≤ 19 := nodup_le acc 19 h.nodup h.lt

/-- what the whole way is -/
structure Rho (nx : Nat → Option Nat) (s : Nat) (w : List Nat) : Prop extends Acc nx s w where
  pos : 0 < w.length
  last : orb nx s w.length = none ∨ ∃ mu, mu < w.length ∧ orb nx s w.length = orb nx s mu
theorem wayF_rho (hn : Nice nx) {s : Nat} (hs : s < 19) : ∀ (n : Nat) (acc : List Nat), Acc nx s acc → acc.length + n = 20 → Rho nx s (wayF nx n acc (orb nx s acc.length)) := by
  intro n
  induction n with
  | zero => intro acc h hl; have := h.len; omega
  | succ n ih =>
    intro acc h hl
    cases hc : orb nx s acc.length with
    | none =>
      show Rho nx s acc
      have : acc.length ≠ 0 := by intro h0; rw [h0] at hc; simp [orb] at hc
      exact ⟨h, by omega, .inl hc⟩
    | some i =>
      show Rho nx s (if i ∈ acc then acc else wayF nx n (acc ++ [i]) (nx i))
      by_cases hm : i ∈ acc
      · rw [if_pos hm]
        obtain ⟨mu, hmu⟩ := List.getElem?_of_mem hm
        have hlt := (List.getElem?_eq_some_iff.1 hmu).1
        exact ⟨h, by omega, .inr ⟨mu, hlt, by rw [hc, ← h.at_ mu hlt, hmu]⟩⟩
      · rw [if_neg hm]
        have := ih (acc ++ [i]) (h.snoc hn hs hc hm) (by simp; omega)
        rw [show (acc ++ [i]).length = acc.length + 1 by simp] at this
        simpa only [orb, hc, Option.bind_some] using this
theorem way_rho (hn : Nice nx) {s : Nat} (hs : s < 19) : Rho nx s (way nx s) := wayF_rho hn hs 20 [] (Acc.nil s) rfl
/-- the step of a walk of the way -/
theorem wayF_step {n : Nat} {acc : List Nat} {i : Nat} (hm : i ∉ acc) : wayF nx (n + 1) acc (some i) = wayF nx n (acc ++ [i]) (nx i) := by
  show (if i ∈ acc then acc else _) = _; rw [if_neg hm]
theorem wayF_hit {n : Nat} {acc : List Nat} {i : Nat} (hm : i ∈ acc) : wayF nx n acc (some i) = acc := by
  cases n with
  | zero => rfl
  | succ n => show (if i ∈ acc then acc else _) = _; rw [if_pos hm]
theorem wayF_none {n : Nat} {acc : List Nat} : wayF nx n acc none = acc := by cases n <;> rfl

theorem orb_add (s : Nat) (a b : Nat) : orb nx s (a + b) = (orb nx s a).bind fun i => orb nx i b := by
  induction b with
  | zero => simp only [Nat.add_zero, orb]; cases orb nx s a <;> rfl
  | succ b ih =>
    rw [← Nat.add_assoc]; simp only [orb]; rw [ih]
    cases orb nx s a <;> rfl
theorem orb_shift {s a b : Nat} (h : orb nx s a = orb nx s b) (k : Nat) : orb nx s (a + k) = orb nx s (b + k) := by
  rw [orb_add, orb_add, h]
theorem orb_none {s a : Nat} (h : orb nx s a = none) (k : Nat) : orb nx s (a + k) = none := by rw [orb_add, h]; rfl
theorem orb_none_ge {s a b : Nat} (h : orb nx s a = none) (hb : a ≤ b) : orb nx s b = none := by
  have := orb_none h (b - a); rwa [show a + (b - a) = b by omega] at this
section
variable {s : Nat} {w : List Nat}
theorem Rho.some_ (h : Rho nx s w) {j : Nat} (hj : j < w.length) : orb nx s j = some w[j] := by rw [← h.at_ j hj, List.getElem?_eq_getElem hj]
theorem Rho.inj (h : Rho nx s w) {i j : Nat} (hi : i < w.length) (hj : j < w.length) (e : orb nx s i = orb nx s j) : i = j := by
  rw [h.some_ hi, h.some_ hj] at e
  exact (List.getElem_inj h.nodup).1 (Option.some.inj e)
theorem Rho.unique (h : Rho nx s w) {v : List Nat} (k : Rho nx s v) : w = v := by
  have key : ∀ {w v : List Nat}, Rho nx s w → Rho nx s v → ¬ w.length < v.length := by
    intro w v h k hlt
    rcases h.last with h1 | ⟨mu, hmu, h1⟩
    · rw [k.some_ hlt] at h1; cases h1
    · have := k.inj hlt (by omega) h1; omega
  have hl : w.length = v.length := by have := key h k; have := key k h; omega
  apply List.ext_getElem?
  intro j
  rcases Nat.lt_or_ge j w.length with h1 | h1
  · rw [h.at_ j h1, k.at_ j (by omega)]
  · rw [List.getElem?_eq_none h1, List.getElem?_eq_none (by omega)]
/-- every element of the chain is one of the way's, behind the ring's start if it was there -/
theorem Rho.fold (h : Rho nx s w) {mu : Nat} (hmu : mu < w.length) (e : orb nx s w.length = orb nx s mu) : ∀ k, ∃ p, p < w.length ∧ orb nx s k = orb nx s p ∧ (k < w.length → p = k) ∧ (mu ≤ k → mu ≤ p) := by
  intro k
  induction k with
  | zero => exact ⟨0, h.pos, rfl, fun _ => rfl, fun h => h⟩
  | succ k ih =>
    obtain ⟨p, h1, h2, h3, h4⟩ := ih
    by_cases hl : p + 1 < w.length
    · refine ⟨p + 1, hl, by simp only [orb]; rw [h2], fun hk => by rw [h3 (by omega)], fun hk => ?_⟩
      by_cases hkm : mu ≤ k
      · have := h4 hkm; omega
      · have := h3 (by omega); omega
    · refine ⟨mu, hmu, ?_, fun hk => ?_, fun _ => Nat.le_refl _⟩
      · have : p + 1 = w.length := by omega
        rw [← e, ← this]; simp only [orb]; rw [h2]
      · have := h3 (by omega); omega
theorem Rho.later (h : Rho nx s w) {mu : Nat} (hmu : mu < w.length) (e : orb nx s w.length = orb nx s mu) {j k : Nat} (hj : j < mu) (hk : mu ≤ k) : orb nx s j ≠ orb nx s k := by
  obtain ⟨p, h1, h2, _, h4⟩ := h.fold hmu e k
  intro e2
  rw [h2] at e2
  have := h.inj (by omega) h1 e2
  have := h4 hk; omega

/-- a spot on a ring -/
def OnR (nx : Nat → Option Nat) (s : Nat) : Prop := ∃ k, 0 < k ∧ orb nx s k = some s
theorem Rho.onR (h : Rho nx s w) : OnR nx s ↔ orb nx s w.length = some s := by
  constructor
  · rintro ⟨k, hk, e⟩
    rcases h.last with h1 | ⟨mu, hmu, h1⟩
    · rcases Nat.lt_or_ge k w.length with h2 | h2
      · have := h.inj h2 h.pos (by rw [e]; rfl); omega
      · rw [orb_none_ge h1 h2] at e; cases e
    · rcases Nat.eq_zero_or_pos mu with h0 | h0
      · subst h0; rw [h1]; rfl
      · exfalso
        rcases Nat.lt_or_ge k w.length with h2 | h2
        · have := h.inj h2 h.pos (by rw [e]; rfl); omega
        · exact h.later hmu h1 h0 (show mu ≤ k by omega) (by rw [e]; rfl)
  · intro e; exact ⟨_, h.pos, e⟩
/-- the way runs into its ring at mu -/
theorem Rho.ring_at (h : Rho nx s w) {mu : Nat} (hmu : mu < w.length) (e : orb nx s w.length = orb nx s mu) {j i : Nat} (hi : orb nx s j = some i) : OnR nx i ↔ mu ≤ j := by
  constructor
  · rintro ⟨k, hk, e2⟩
    rcases Nat.lt_or_ge j mu with h1 | h1
    · exfalso
      -- i comes again and again, so also behind mu
      have h2 : ∀ t, orb nx s (j + k * t) = some i := by
        intro t
        induction t with
        | zero => simpa using hi
        | succ t ih => rw [Nat.mul_succ, ← Nat.add_assoc, orb_add, ih]; exact e2
      have h3 := h2 mu
      have h4 : mu ≤ j + k * mu := by have := Nat.le_mul_of_pos_left mu hk; omega
      exact h.later hmu e h1 h4 (by rw [hi, h3])
    · exact h1
  · intro hj
    obtain ⟨p, h1, h2, _, h4⟩ := h.fold hmu e j
    have hp := h4 hj
    refine ⟨w.length - mu, by omega, ?_⟩
    have h5 := orb_shift (nx := nx) (s := s) e (p - mu)
    rw [show mu + (p - mu) = p by omega, ← h2, hi, show w.length + (p - mu) = p + (w.length - mu) by omega, orb_add, ← h2, hi] at h5
    exact h5
theorem Rho.no_ring (_h : Rho nx s w) (e : orb nx s w.length = none) {j i : Nat} (hi : orb nx s j = some i) : ¬ OnR nx i := by
  rintro ⟨k, hk, e2⟩
  have h2 : ∀ t, orb nx s (j + k * t) = some i := by
    intro t
    induction t with
    | zero => simpa using hi
    | succ t ih => rw [Nat.mul_succ, ← Nat.add_assoc, orb_add, ih]; exact e2
  have h3 := h2 w.length
  have h4 : w.length ≤ j + k * w.length := by have := Nat.le_mul_of_pos_left w.length hk; omega
  rw [orb_none_ge e h4] at h3; cases h3
end
end Go.PW
namespace Go.PW
variable {nx : Nat → Option Nat} {s : Nat} {w : List Nat}
/-- where the way to a ring or an end stops -/
structure Stops (nx : Nat → Option Nat) (s D : Nat) : Prop where
  lt : D ≤ 19
  before : ∀ j, j < D → ∃ i t, orb nx s j = some i ∧ nx i = some t ∧ ¬ OnR nx i
  at_ : ∃ i, orb nx s D = some i ∧ (nx i = none ∨ OnR nx i)
theorem Rho.step (h : Rho nx s w) {j : Nat} (hj : j + 1 < w.length) : ∃ i t, orb nx s j = some i ∧ nx i = some t ∧ orb nx s (j + 1) = some t := by
  have h1 := h.some_ (j := j) (by omega)
  have h2 := h.some_ hj
  refine ⟨_, _, h1, ?_, h2⟩
  have : orb nx s (j + 1) = (orb nx s j).bind nx := rfl
  rw [h1, h2] at this
  exact this.symm
theorem Rho.stops (h : Rho nx s w) : ∃ D, Stops nx s D ∧ ((orb nx s w.length = none ∧ D + 1 = w.length) ∨ (D < w.length ∧ orb nx s w.length = orb nx s D)) := by
  have hl := h.len
  have hp := h.pos
  rcases h.last with h1 | ⟨mu, hmu, h1⟩
  · refine ⟨w.length - 1, ⟨by omega, fun j hj => ?_, ?_⟩, .inl ⟨h1, by omega⟩⟩
    · obtain ⟨i, t, e1, e2, e3⟩ := h.step (j := j) (by omega)
      exact ⟨i, t, e1, e2, h.no_ring h1 e1⟩
    · refine ⟨_, h.some_ (j := w.length - 1) (by omega), .inl ?_⟩
      have h2 := h.some_ (j := w.length - 1) (by omega)
      have : orb nx s (w.length - 1 + 1) = (orb nx s (w.length - 1)).bind nx := rfl
      rw [show w.length - 1 + 1 = w.length by omega, h1, h2] at this
      exact this.symm
  · refine ⟨mu, ⟨by omega, fun j hj => ?_, ?_⟩, .inr ⟨hmu, h1⟩⟩
    · obtain ⟨i, t, e1, e2, e3⟩ := h.step (j := j) (by omega)
      exact ⟨i, t, e1, e2, fun hr => by have := (h.ring_at hmu h1 e1).1 hr; omega⟩
    · exact ⟨_, h.some_ hmu, .inr ((h.ring_at hmu h1 (h.some_ hmu)).2 (Nat.le_refl _))⟩
theorem Stops.unique {D E : Nat} (h : Stops nx s D) (k : Stops nx s E) : D = E := by
  have key : ∀ {D E : Nat}, Stops nx s D → Stops nx s E → ¬ D < E := by
    intro D E h k hlt
    obtain ⟨i, e1, e2⟩ := h.at_
    obtain ⟨i', t, e3, e4, e5⟩ := k.before D hlt
    rw [e1] at e3; cases e3
    rcases e2 with e2 | e2
    · rw [e4] at e2; cases e2
    · exact e5 e2
  have := key h k; have := key k h; omega

/-- the pointers meet after at most 19 rounds -/
theorem Rho.meets (h : Rho nx s w) : ∃ k, 1 ≤ k ∧ k ≤ 19 ∧ orb nx s k = orb nx s (2 * k) := by
  have hl := h.len
  rcases h.last with h1 | ⟨mu, hmu, h1⟩
  · exact ⟨19, by omega, by omega, by rw [orb_none_ge h1 (by omega), orb_none_ge h1 (by omega)]⟩
  · obtain ⟨lam, hlam⟩ : ∃ lam, lam = w.length - mu := ⟨_, rfl⟩
    have per : ∀ t x, mu ≤ x → orb nx s (x + lam * t) = orb nx s x := by
      intro t x hx
      induction t with
      | zero => rfl
      | succ t ih =>
        rw [Nat.mul_succ, ← Nat.add_assoc, ← ih]
        have := orb_shift (nx := nx) (s := s) h1 (x + lam * t - mu)
        rw [show w.length + (x + lam * t - mu) = x + lam * t + lam by omega, show mu + (x + lam * t - mu) = x + lam * t by omega] at this
        exact this
    have hd := Nat.div_add_mod mu lam
    have hm := Nat.mod_lt mu (show 0 < lam by omega)
    refine ⟨lam * (mu / lam + 1), ?_, ?_, ?_⟩
    · rw [Nat.mul_add]; omega
    · rw [Nat.mul_add]; omega
    · rw [Nat.two_mul, per _ _ (by rw [Nat.mul_add]; omega)]
/-- what the meeting of the two pointers is -/
def Meet (nx : Nat → Option Nat) (s : Nat) (m : Option Nat) : Prop := (m = none ∧ ∃ k, orb nx s k = none) ∨ ∃ k, 0 < k ∧ m = orb nx s k ∧ orb nx s k = orb nx s (2 * k)
/-- what the entrance of the ring is -/
def Ent (nx : Nat → Option Nat) (s : Nat) (e : Option Nat) : Prop := ∃ D, Stops nx s D ∧ ((e = none ∧ ∃ k, orb nx s k = none) ∨ (e = orb nx s D ∧ ∀ k, orb nx s k ≠ none))
theorem Rho.ends (h : Rho nx s w) {k : Nat} (hk : orb nx s k = none) : orb nx s w.length = none := by
  rcases h.last with h1 | ⟨mu, hmu, h1⟩
  · exact h1
  · obtain ⟨p, h2, h3, _⟩ := h.fold hmu h1 k
    rw [h3, h.some_ h2] at hk; cases hk
/-- the second walk of the pointers -/
theorem Rho.second (h : Rho nx s w) {m : Option Nat} (hm : Meet nx s m) : (m = none ∧ ∃ k, orb nx s k = none) ∨ ∃ k D, Stops nx s D ∧ m = orb nx s k ∧ (∀ j, j < D → orb nx s j ≠ orb nx s (k + j)) ∧ orb nx s D = orb nx s (k + D) ∧ ∀ i, orb nx s i ≠ none := by
  rcases hm with hm | ⟨k, hk, rfl, e⟩
  · exact .inl hm
  · by_cases h0 : orb nx s k = none
    · exact .inl ⟨h0, _, h0⟩
    · right
      obtain ⟨D, hD, hc⟩ := h.stops
      rcases hc with ⟨h1, h2⟩ | ⟨h1, h2⟩
      · exfalso
        have hk1 : k < w.length := Nat.lt_of_not_ge fun hge => h0 (orb_none_ge h1 hge)
        have hk2 : 2 * k < w.length := Nat.lt_of_not_ge fun hge => h0 (by rw [e]; exact orb_none_ge h1 hge)
        have := h.inj hk1 hk2 e; omega
      · have hkD : D ≤ k := by
          rcases Nat.lt_or_ge k D with hlt | hge
          · exfalso
            by_cases h3 : 2 * k < w.length
            · have := h.inj (by omega) h3 e; omega
            · exact h.later h1 h2 hlt (show D ≤ 2 * k by omega) e
          · exact hge
        refine ⟨k, D, hD, rfl, fun j hj => h.later h1 h2 hj (by omega), ?_, fun i hi => ?_⟩
        · -- some m with orb (k + m) = orb D
          obtain ⟨lam, hlam⟩ : ∃ lam, lam = w.length - D := ⟨_, rfl⟩
          have per : ∀ t x, D ≤ x → orb nx s (x + lam * t) = orb nx s x := by
            intro t x hx
            induction t with
            | zero => rfl
            | succ t ih =>
              rw [Nat.mul_succ, ← Nat.add_assoc, ← ih]
              have := orb_shift (nx := nx) (s := s) h2 (x + lam * t - D)
              rw [show w.length + (x + lam * t - D) = x + lam * t + lam by omega, show D + (x + lam * t - D) = x + lam * t by omega] at this
              exact this
          -- D + lam * k ≥ k, reached from k by m steps
          have hlk : k ≤ lam * k := Nat.le_mul_of_pos_left k (by omega)
          have e1 := per k D (Nat.le_refl _)
          have e2 := orb_shift (nx := nx) (s := s) e (D + lam * k - k)
          rw [show k + (D + lam * k - k) = D + lam * k by omega, show 2 * k + (D + lam * k - k) = k + D + lam * k by omega, e1, per k (k + D) (by omega)] at e2
          exact e2
        · have := h.ends hi
          rw [h2, h.some_ h1] at this; cases this
theorem Ent.onR (h : Rho nx s w) {e : Option Nat} (he : Ent nx s e) : e = some s ↔ OnR nx s := by
  obtain ⟨D, hD, hc⟩ := he
  rcases hc with ⟨rfl, k, hk⟩ | ⟨rfl, hall⟩
  · constructor
    · intro h; cases h
    · intro hr; exact absurd hr (h.no_ring (h.ends hk) (j := 0) rfl)
  · obtain ⟨E, hE, hc⟩ := h.stops
    rcases hc with ⟨h1, _⟩ | ⟨h1, h2⟩
    · exact absurd h1 (hall _)
    · have := hD.unique hE
      subst this
      rw [h.ring_at h1 h2 (j := 0) (i := s) rfl]
      constructor
      · intro e
        have := h.inj h1 h.pos (by rw [e]; rfl)
        omega
      · intro h0
        have : D = 0 := by omega
        subst this; rfl
/-- the entrance does not come before -/
theorem Ent.before (h : Rho nx s w) {e : Option Nat} (he : Ent nx s e) {D : Nat} (hD : Stops nx s D) : (∀ j, j < D → orb nx s j ≠ e) ∧ (orb nx s D = e ∨ ∃ i, orb nx s D = some i ∧ nx i = none) := by
  obtain ⟨E, hE, hc⟩ := he
  have := hD.unique hE
  subst this
  rcases hc with ⟨rfl, k, hk⟩ | ⟨rfl, hall⟩
  · refine ⟨fun j hj => ?_, ?_⟩
    · obtain ⟨i, t, e1, _⟩ := hD.before j hj
      rw [e1]; intro h; cases h
    · obtain ⟨i, e1, e2⟩ := hD.at_
      exact .inr ⟨i, e1, e2.resolve_right (h.no_ring (h.ends hk) e1)⟩
  · refine ⟨fun j hj e => ?_, .inl rfl⟩
    obtain ⟨i, t, e1, _, e3⟩ := hD.before j hj
    obtain ⟨i', e4, e5⟩ := hD.at_
    rw [e1, e4] at e; cases e
    rcases e5 with e5 | e5
    · exact hall (D + 1) (by simp only [orb]; rw [e4]; exact e5)
    · exact e3 e5
end Go.PW
namespace Go.PW
open Go.PM Go.RowKit Go.Lib

def spotsL : List UInt8 := [97, 98, 99, 100, 101, 102, 65, 66, 67, 48, 49, 50, 51, 52, 53, 54, 55, 56, 57]
def ch (i : Nat) : UInt8 := spotsL.getD i 0
def sn (i : Nat) : ByteArray := ⟨#[ch i]⟩
def sidx (s : ByteArray) : Nat := (indexByte spotsL (s.data.toList.headD 0)).toNat
def txt (l : List Nat) : ByteArray := ⟨(l.map ch).toArray⟩
theorem sn_nm (i : Nat) (h : i < 9) : sn i = nm i := by
  match i, h with
  | 0, _ | 1, _ | 2, _ | 3, _ | 4, _ | 5, _ | 6, _ | 7, _ | 8, _ => rfl
theorem ch_all : ∀ i, i < 19 → (indexByte spotsL (ch i)) = (i : Nat) ∧ isS (sn i) = true ∧ isP (sn i) = decide (i < 9) ∧ isD (sn i) = decide (9 ≤ i) := by
  intro i h
  rcases (show i = 0 ∨ i = 1 ∨ i = 2 ∨ i = 3 ∨ i = 4 ∨ i = 5 ∨ i = 6 ∨ i = 7 ∨ i = 8 ∨ i = 9 ∨ i = 10 ∨ i = 11 ∨ i = 12 ∨ i = 13 ∨ i = 14 ∨ i = 15 ∨ i = 16 ∨ i = 17 ∨ i = 18 by omega) with rfl | rfl | rfl | rfl | rfl | rfl | rfl | rfl | rfl | rfl | rfl | rfl | rfl | rfl | rfl | rfl | rfl | rfl | rfl <;> decide +kernel
theorem ch_inj {i j : Nat} (hi : i < 19) (hj : j < 19) (e : ch i = ch j) : i = j := by
  have h1 := (ch_all i hi).1
  have h2 := (ch_all j hj).1
  rw [e, h2] at h1; omega
theorem sn_inj {i j : Nat} (hi : i < 19) (hj : j < 19) (e : sn i = sn j) : i = j := by
  refine ch_inj hi hj ?_
  have := congrArg (fun s => s.data.toList.headD 0) e
  simpa [sn] using this
theorem sidx_sn {i : Nat} (hi : i < 19) : sidx (sn i) = i := by
  have := (ch_all i hi).1
  unfold sidx sn
  show (indexByte spotsL (ch i)).toNat = i
  rw [this]; rfl
theorem sidx_one (c : UInt8) (h : isS ⟨#[c]⟩ = true) : sidx ⟨#[c]⟩ < 19 ∧ sn (sidx ⟨#[c]⟩) = ⟨#[c]⟩ := by
  have hm : c ∈ spotsL := by
    unfold isS at h
    rw [Bool.or_eq_true] at h
    rcases h with h | h
    · have : c ∈ placesL := by simpa [isP] using h
      simp only [placesL, List.mem_cons, List.not_mem_nil, or_false] at this
      simp only [spotsL, List.mem_cons, List.not_mem_nil, or_false]
      rcases this with h | h | h | h | h | h | h | h | h <;> simp [h]
    · have : 48 ≤ c.toNat ∧ c.toNat ≤ 57 := by simpa [isD] using h
      obtain ⟨n, hn⟩ : ∃ n, c.toNat = n := ⟨_, rfl⟩
      have hc : c = UInt8.ofNat n := by rw [← hn]; simp
      subst hc
      rw [hn] at this
      have : n = 48 ∨ n = 49 ∨ n = 50 ∨ n = 51 ∨ n = 52 ∨ n = 53 ∨ n = 54 ∨ n = 55 ∨ n = 56 ∨ n = 57 := by omega
      rcases this with rfl | rfl | rfl | rfl | rfl | rfl | rfl | rfl | rfl | rfl <;> decide
  simp only [spotsL, List.mem_cons, List.not_mem_nil, or_false] at hm
  rcases hm with rfl | rfl | rfl | rfl | rfl | rfl | rfl | rfl | rfl | rfl | rfl | rfl | rfl | rfl | rfl | rfl | rfl | rfl | rfl <;> decide +kernel
theorem sidx_spec {s : ByteArray} (h : isS s = true) : sidx s < 19 ∧ sn (sidx s) = s := by
  obtain ⟨c, rfl⟩ := one_of_size (isS_size h)
  exact sidx_one c h
theorem sidx_pidx {s : ByteArray} (h : isP s = true) : sidx s = pidx s := by
  have h1 := pidx_spec h
  have h2 : isS s = true := by unfold isS; rw [h]; rfl
  have h3 := sidx_spec h2
  refine sn_inj h3.1 (by omega) ?_
  rw [h3.2, sn_nm _ h1.1, h1.2]
theorem isP_sidx {s : ByteArray} (h : isS s = true) : isP s = decide (sidx s < 9) := by
  have h1 := sidx_spec h
  have h2 := (ch_all _ h1.1).2.2.1
  rwa [h1.2] at h2
def strLen : Value → Nat
  | .string t => t.size
  | _ => 0
theorem txt_nil : txt [] = ⟨#[]⟩ := rfl
theorem txt_one (i : Nat) : txt [i] = sn i := rfl
theorem txt_append (l m : List Nat) : txt (l ++ m) = txt l ++ txt m := by
  apply ByteArray.ext
  rw [ByteArray.data_append]
  simp [txt]
theorem txt_snoc (l : List Nat) (i : Nat) : txt (l ++ [i]) = txt l ++ sn i := txt_append l [i]
theorem txt_size (l : List Nat) : (txt l).size = l.length := by simp [txt, ByteArray.size]
theorem txt_list (l : List Nat) : (txt l).data.toList = l.map ch := by simp [txt]
theorem txt_mem {l : List Nat} (hl : ∀ a ∈ l, a < 19) {i : Nat} (hi : i < 19) : ch i ∈ (txt l).data.toList ↔ i ∈ l := by
  rw [txt_list, List.mem_map]
  constructor
  · rintro ⟨j, hj, e⟩
    have := ch_inj (hl j hj) hi e
    exact this ▸ hj
  · intro h; exact ⟨i, h, rfl⟩
theorem txt_inj : ∀ {l m : List Nat}, (∀ a ∈ l, a < 19) → (∀ a ∈ m, a < 19) → txt l = txt m → l = m := by
  intro l m hl hm e
  have h : l.map ch = m.map ch := by rw [← txt_list, ← txt_list, e]
  clear e
  induction l generalizing m with
  | nil => cases m with
    | nil => rfl
    | cons b m => simp at h
  | cons a l ih => cases m with
    | nil => simp at h
    | cons b m =>
      rw [List.map_cons, List.map_cons, List.cons.injEq] at h
      have := ch_inj (hl a (by simp)) (hm b (by simp)) h.1
      rw [this, ih (fun x hx => hl x (by simp [hx])) (fun x hx => hm x (by simp [hx])) h.2]

/-- a table whose sources are places or digits -/
def SV (f : Nat → ByteArray) : Prop := ∀ p, p < 9 → isS (srcT f p) = true
theorem SV_tab {xs : List Mv} (h : MV xs) : SV (tabOf xs) := by
  intro p hp
  rw [srcM_nm h hp]
  unfold srcM
  cases hf : xs.find? (fun m => decide (m.1 = nm p)) with
  | none => show isS (nm p) = true; unfold isS; rw [isP_nm hp]; rfl
  | some m =>
    have := h.1 m (List.mem_of_find?_eq_some hf)
    unfold mok at this; rw [Bool.and_eq_true] at this
    exact this.2
/-- the spot whence the value of a place comes -/
def sx (f : Nat → ByteArray) (p : Nat) : Nat := sidx (srcT f p)
def nxT (f : Nat → ByteArray) (i : Nat) : Option Nat := if i < 9 then (if sx f i = i then none else some (sx f i)) else none
theorem sx_lt {f : Nat → ByteArray} (h : SV f) {p : Nat} (hp : p < 9) : sx f p < 19 ∧ sn (sx f p) = srcT f p := sidx_spec (h p hp)
theorem nice {f : Nat → ByteArray} (h : SV f) : Nice (nxT f) := by
  refine ⟨fun i j e => ?_, fun i e => ?_, fun i j e => ?_⟩
  all_goals
    unfold nxT at e
    by_cases h9 : i < 9
    · rw [if_pos h9] at e
      by_cases h1 : sx f i = i
      · rw [if_pos h1] at e; cases e
      · rw [if_neg h1, Option.some.injEq] at e
        first | exact h9 | exact absurd e h1 | exact e ▸ (sx_lt h h9).1
    · rw [if_neg h9] at e; cases e
theorem nxT_some {f : Nat → ByteArray} {i : Nat} (hi : i < 9) (h : sx f i ≠ i) : nxT f i = some (sx f i) := by
  unfold nxT; rw [if_pos hi, if_neg h]
theorem nxT_stay {f : Nat → ByteArray} {i : Nat} (hi : i < 9) (h : sx f i = i) : nxT f i = none := by
  unfold nxT; rw [if_pos hi, if_pos h]
theorem nxT_digit {f : Nat → ByteArray} {i : Nat} (hi : ¬ i < 9) : nxT f i = none := by
  unfold nxT; rw [if_neg hi]
theorem src_self {f : Nat → ByteArray} (h : SV f) {i : Nat} (hi : i < 9) : srcT f i = nm i ↔ sx f i = i := by
  have h1 := sx_lt h hi
  rw [← h1.2, ← sn_nm i hi]
  exact ⟨fun e => sn_inj h1.1 (by omega) e, fun e => by rw [e]⟩
end Go.PW
namespace Go.PW
open Go.PM
variable {nx : Nat → Option Nat}
theorem least_ex {P : Nat → Prop} : ∀ n, P n → ∃ m, P m ∧ ∀ k, P k → m ≤ k := by
  intro n
  induction n using Nat.strongRecOn with
  | ind n ih =>
    intro h
    by_cases h2 : ∃ m, m < n ∧ P m
    · obtain ⟨m, h3, h4⟩ := h2; exact ih m h3 h4
    · exact ⟨n, h, fun k hk => Nat.le_of_not_lt fun hlt => h2 ⟨k, hlt, hk⟩⟩
open Classical in
/-- the least number of which P holds -/
noncomputable def least (P : Nat → Prop) : Nat := if h : ∃ m, P m ∧ ∀ k, P k → m ≤ k then Classical.choose h else 0
theorem least_spec {P : Nat → Prop} (h : ∃ n, P n) : P (least P) ∧ ∀ k, P k → least P ≤ k := by
  obtain ⟨n, hn⟩ := h
  have hx := least_ex n hn
  unfold least
  rw [dif_pos hx]
  exact Classical.choose_spec hx
/-- what a walk along the way holds: the spots till i, the last of them -/
structure WayI (nx : Nat → Option Nat) (s : Nat) (acc : List Nat) (i n : Nat) : Prop extends Acc nx s acc where
  pos : 0 < acc.length
  cur : orb nx s (acc.length - 1) = some i
  way_ : way nx s = wayF nx n acc (nx i)
  len : acc.length + n = 20
theorem WayI.start (nx : Nat → Option Nat) {s : Nat} (hs : s < 19) : WayI nx s [s] s 19 := by
  refine ⟨⟨fun j h => ?_, by simp, fun a ha => ?_⟩, by simp, rfl, ?_, rfl⟩
  · have : j = 0 := by simp at h; omega
    subst this; rfl
  · simp at ha; omega
  · show wayF nx 20 [] (some s) = _
    rw [wayF_step (by simp)]; rfl
section
variable {s : Nat} {acc : List Nat} {i n : Nat}
theorem WayI.next_orb (h : WayI nx s acc i n) : orb nx s acc.length = nx i := by
  have : orb nx s (acc.length - 1 + 1) = (orb nx s (acc.length - 1)).bind nx := rfl
  rw [show acc.length - 1 + 1 = acc.length by have := h.pos; omega, h.cur] at this
  exact this
theorem WayI.mem (h : WayI nx s acc i n) : i ∈ acc := by
  have h1 := h.at_ (acc.length - 1) (by have := h.pos; omega)
  rw [h.cur] at h1
  exact List.mem_of_getElem? h1
theorem WayI.ilt (h : WayI nx s acc i n) : i < 19 := h.lt i h.mem
theorem WayI.stop (h : WayI nx s acc i n) (e : nx i = none) : way nx s = acc := by rw [h.way_, e, wayF_none]
theorem WayI.hit (h : WayI nx s acc i n) {j : Nat} (e : nx i = some j) (hm : j ∈ acc) : way nx s = acc := by rw [h.way_, e, wayF_hit hm]
theorem WayI.next (hn : Nice nx) (hs : s < 19) (h : WayI nx s acc i n) {j : Nat} (e : nx i = some j) (hm : j ∉ acc) : ∃ n', n = n' + 1 ∧ WayI nx s (acc ++ [j]) j n' := by
  have hl := h.toAcc.len
  have ho := h.next_orb
  rw [e] at ho
  obtain ⟨n', rfl⟩ : ∃ n', n = n' + 1 := ⟨n - 1, by have := h.len; omega⟩
  have h2 := h.toAcc.snoc hn hs ho hm
  have h3 := h2.len
  simp at h3
  refine ⟨n', rfl, h2, by simp, by simpa using ho, ?_, by have := h.len; simp; omega⟩
  rw [h.way_, e, wayF_step hm]
end

/-- the way as it is told by names: whence a place's value comes, itself where it stays -/
theorem way_src {f : Nat → ByteArray} (_hf : SV f) {s : Nat} {acc : List Nat} {i n : Nat} (h : WayI (nxT f) s acc i n) (hi : i < 9) (hm : sx f i ∈ acc) : way (nxT f) s = acc := by
  by_cases e : sx f i = i
  · exact h.stop (nxT_stay hi e)
  · exact h.hit (nxT_some hi e) hm
theorem way_go {f : Nat → ByteArray} (hf : SV f) {s : Nat} (hs : s < 19) {acc : List Nat} {i n : Nat} (h : WayI (nxT f) s acc i n) (hi : i < 9) (hm : sx f i ∉ acc) : ∃ n', n = n' + 1 ∧ WayI (nxT f) s (acc ++ [sx f i]) (sx f i) n' := by
  have e : sx f i ≠ i := fun e => hm (by rw [e]; exact h.mem)
  exact h.next (nice hf) hs (nxT_some hi e) hm

def onRb (nx : Nat → Option Nat) (s : Nat) : Bool := decide (orb nx s (way nx s).length = some s)
theorem onRb_iff (hn : Nice nx) {s : Nat} (hs : s < 19) : onRb nx s = true ↔ OnR nx s := by
  rw [(way_rho hn hs).onR]; simp [onRb]
/-- the ring at a spot, nothing where there is none -/
def ringL (nx : Nat → Option Nat) (s : Nat) : List Nat := if onRb nx s then way nx s else []
/-- the rings of the first k places -/
def ringsF (nx : Nat → Option Nat) : Nat → List (List Nat)
  | 0 => []
  | k + 1 => if onRb nx k = true ∧ k ∉ (ringsF nx k).flatten then ringsF nx k ++ [way nx k] else ringsF nx k
theorem ringsF_yes {k : Nat} (h1 : onRb nx k = true) (h2 : k ∉ (ringsF nx k).flatten) : ringsF nx (k + 1) = ringsF nx k ++ [way nx k] := by rw [ringsF, if_pos ⟨h1, h2⟩]
theorem ringsF_no {k : Nat} (h : ¬ (onRb nx k = true ∧ k ∉ (ringsF nx k).flatten)) : ringsF nx (k + 1) = ringsF nx k := by rw [ringsF, if_neg h]
theorem ringsF_lt (hn : Nice nx) : ∀ k, k ≤ 9 → (∀ a ∈ (ringsF nx k).flatten, a < 19) ∧ (ringsF nx k).length ≤ k ∧ (ringsF nx k).flatten.length ≤ 19 * k := by
  intro k
  induction k with
  | zero => intro _; exact ⟨by simp [ringsF], by simp [ringsF], by simp [ringsF]⟩
  | succ k ih =>
    intro hk
    obtain ⟨h1, h2, h3⟩ := ih (by omega)
    by_cases h : onRb nx k = true ∧ k ∉ (ringsF nx k).flatten
    · rw [ringsF_yes h.1 h.2]
      have hr := way_rho hn (show k < 19 by omega)
      have hl := hr.len
      refine ⟨fun a ha => ?_, by simp; omega, by simp; simp at h3; omega⟩
      simp only [List.flatten_append, List.mem_append] at ha
      rcases ha with ha | ha
      · exact h1 a ha
      · exact hr.lt a (by simpa using ha)
    · rw [ringsF_no h]; exact ⟨h1, by omega, by omega⟩
end Go.PW
namespace Go.PW
open Go.RowKit Go.PM
def spotV (b : Nat) : Option Nat → Value
  | none => .pointer none
  | some j => .pointer (some ⟨b, j * 2, none⟩)
/-- the spots lie in block b -/
structure Spots (w : World) (b : Nat) (nx : Nat → Option Nat) : Prop where
  row : ∃ t cs, At w b t cs
  name : ∀ i, i < 19 → w.cell? ⟨b, i * 2, none⟩ = some (.string (sn i))
  src : ∀ i, i < 19 → w.cell? ⟨b, i * 2 + 1, none⟩ = some (spotV b (nx i))
theorem Spots.lt {w : World} {b : Nat} {nx : Nat → Option Nat} (h : Spots w b nx) : b < w.heap.size := by
  obtain ⟨t, cs, h⟩ := h.row; exact h.lt
theorem Spots.below {w w' : World} {b : Nat} {nx : Nat → Option Nat} (h : Spots w b nx) (hb : Below w.heap.size w w') : Spots w' b nx :=
  ⟨by obtain ⟨t, cs, h⟩ := h.row; exact ⟨t, cs, h.keep hb⟩, fun i hi => (hb.cell (p := ⟨b, i * 2, none⟩) h.lt).trans (h.name i hi), fun i hi => (hb.cell (p := ⟨b, i * 2 + 1, none⟩) h.lt).trans (h.src i hi)⟩
/-- two pointers that walk: r rounds are left at most -/
def Run (ob : Nat → Option Nat) (b K : Nat) (r : Nat) (sl fa : Value) : Prop := ∃ k, k + r = K ∧ 0 < r ∧ sl = spotV b (ob k) ∧ fa = spotV b (ob (2 * k))
theorem Run.next {ob : Nat → Option Nat} {b K k : Nat} {X Y X0 Y0 : Value} (h1 : k + least (fun r => Run ob b K r X0 Y0) = K) (hk : k + 1 < K) (hX : X = spotV b (ob (k + 1))) (hY : Y = spotV b (ob (2 * (k + 1)))) :
    (∃ r, Run ob b K r X Y) ∧ least (fun r => Run ob b K r X Y) < least (fun r => Run ob b K r X0 Y0) := by
  have h : Run ob b K (K - (k + 1)) X Y := ⟨k + 1, by omega, by omega, hX, hY⟩
  refine ⟨⟨_, h⟩, ?_⟩
  have := (least_spec (P := fun r => Run ob b K r X Y) ⟨_, h⟩).2 _ h
  omega
end Go.PW
namespace Go.Proofs.Ytbgchjjaaelkbaa
open Go.RowKit Go.PM Go.PW Go.Lib

theorem infoSp : (Try.prog.info? 94).map (fun i => (i.zero, i.size, i.bytes)) = some (some (.agg #[.string ⟨#[]⟩, .pointer none]), 2, 24) := by kernel_rfl
theorem eqlp_yes (w : World) (a : Addr) : (binOp .eql 92 (.pointer (some a)) (.pointer (some a))).run Try.prog w = .ok (.bool true) w := by
  obtain ⟨i0, hi0, hz0, hz1, hz2⟩ := info_parts infoSp
  exact run_eql_ptr_same w a Try.underlying92 hi0
theorem eqlp_no (w : World) (b : Nat) (nx : Nat → Option Nat) (hS : Spots w b nx) (i j : Nat) (h : ¬ i = j) : (binOp .eql 92 (.pointer (some ⟨b, i * 2, none⟩)) (.pointer (some ⟨b, j * 2, none⟩))).run Try.prog w = .ok (.bool false) w := by
  obtain ⟨i0, hi0, hz0, hz1, hz2⟩ := info_parts infoSp
  obtain ⟨t, cs, hA⟩ := hS.row
  exact run_eql_ptr_other w Try.underlying92 hi0 (by rw [hz1]; decide) (by intro e; injection e with _ e; omega) hA hA
theorem neqp_yes (w : World) (a : Addr) : (binOp .neq 92 (.pointer (some a)) (.pointer (some a))).run Try.prog w = .ok (.bool false) w := by
  have h := eqlp_yes w a
  simp only [binOp] at h ⊢
  simp only [Sem.run_bind] at h ⊢
  revert h
  cases (Op.equal 92 (.pointer (some a)) (.pointer (some a))).run Try.prog w <;> simp [Result.andThen]
theorem neqp_no (w : World) (b : Nat) (nx : Nat → Option Nat) (hS : Spots w b nx) (i j : Nat) (h : ¬ i = j) : (binOp .neq 92 (.pointer (some ⟨b, i * 2, none⟩)) (.pointer (some ⟨b, j * 2, none⟩))).run Try.prog w = .ok (.bool true) w := by
  have h := eqlp_no w b nx hS i j h
  simp only [binOp] at h ⊢
  simp only [Sem.run_bind] at h ⊢
  revert h
  cases (Op.equal 92 (.pointer (some ⟨b, i * 2, none⟩)) (.pointer (some ⟨b, j * 2, none⟩))).run Try.prog w <;> simp [Result.andThen]

set_option maxRecDepth 100000 in
set_option maxHeartbeats 1000000 in
theorem meeting_c (b : Nat) (nx : Nat → Option Nat) (hn : Nice nx) (s : Nat) (hs : s < 19) (w : World) (hS : Spots w b nx) :
    Calls Try.prog 146 #[spotV b (some s)] w fun e w' => (∃ m, e = .returned (spotV b m) ∧ Meet nx s m) ∧ Below w.heap.size w w' := by
  have hmt := (way_rho hn hs).meets
  obtain ⟨K, hK1, hK2, hK3⟩ := hmt
  have HK3 := Lib.hid hK3
  have HL := Lib.hid (fun k i (h : orb nx s k = some i) => orb_lt hn hs k i h)
  have HO := Lib.hid (show ∀ k, orb nx s (k + 1) = (orb nx s k).bind nx from fun _ => rfl)
  have HZ : Hid (orb nx s 0 = some s) := rfl
  have HG := Lib.hid (fun a b (h : orb nx s a = none) (hab : a ≤ b) => orb_none_ge h hab)
  have HM : Hid (∀ m, Meet nx s m ↔ (m = none ∧ ∃ k, orb nx s k = none) ∨ ∃ k, 0 < k ∧ m = orb nx s k ∧ orb nx s k = orb nx s (2 * k)) := fun _ => Iff.rfl
  have hbl := hS.lt
  clear hK3 hn
  generalize orb nx s = ob at *
  change Calls Try.prog _ #[.pointer (some ⟨b, s * 2, none⟩)] w _
  go_enter Try.func146, Try.ntmps146
  go_wp2
  go_loopw [3, 4] (fun sl fa wr => (∃ r, Run ob b K r sl fa) ∧ Below w.heap.size w wr) (fun sl fa _ => least (fun r => Run ob b K r sl fa))
  case atStart => exact ⟨⟨K, 0, by omega, by omega, by rw [HZ.out]; rfl, by rw [HZ.out]; rfl⟩, Below.refl _ _⟩
  case round =>
    obtain ⟨hru, hb⟩ := hrel
    obtain ⟨k, hk0, hk1, e3, e4⟩ := (least_spec hru).1
    clear hru
    have HK0 := Lib.hid hk0
    have hk : k < K := by omega
    clear hk0 hk1
    subst e3 e4
    have hS2 := hS.below hb
    have hbs := hb.size
    cases hfa : ob (2 * k) with
    | none =>
      have HF := Lib.hid hfa
      clear hfa
      rw [show spotV b none = .pointer none from rfl]
      go_wp2
      go_ret
      exact ⟨⟨none, rfl, (HM.out none).2 (.inl ⟨rfl, _, HF.out⟩)⟩, hb⟩
    | some j =>
      have hjl := HL.out _ _ hfa
      have hcj := hS2.src j hjl
      rw [show spotV b (some j) = .pointer (some ⟨b, j * 2, none⟩) from rfl]
      cases hj2 : nx j with
      | none =>
        have HE : Hid (ob (2 * k + 1) = none) := by show _ = _; rw [HO.out, hfa]; exact hj2
        rw [hj2, show spotV b none = .pointer none from rfl] at hcj
        clear hj2 hfa
        go_wp2
        go_ret
        exact ⟨⟨none, rfl, (HM.out none).2 (.inl ⟨rfl, _, HE.out⟩)⟩, hb⟩
      | some j2 =>
        rw [hj2, show spotV b (some j2) = .pointer (some ⟨b, j2 * 2, none⟩) from rfl] at hcj
        have h21 : ob (2 * k + 1) = some j2 := by rw [HO.out, hfa]; exact hj2
        have h22 : ob (2 * (k + 1)) = nx j2 := by rw [show 2 * (k + 1) = 2 * k + 1 + 1 by omega, HO.out, h21]; rfl
        have hl2 := HL.out _ _ h21
        have hc2 := hS2.src j2 hl2
        cases hsl : ob k with
        | none => rw [HG.out _ _ hsl (show k ≤ 2 * k by omega)] at hfa; cases hfa
        | some i =>
          have hil := HL.out _ _ hsl
          have hci := hS2.src i hil
          have h11 : ob (k + 1) = nx i := by rw [HO.out, hsl]; rfl
          rw [show spotV b (some i) = .pointer (some ⟨b, i * 2, none⟩) from rfl]
          have HK1 : Hid (k + least (fun r => Run ob b K r (.pointer (some ⟨b, i * 2, none⟩)) (.pointer (some ⟨b, j * 2, none⟩))) = K) := by
            have h0 := HK0.out
            rw [hsl, hfa] at h0
            exact h0
          have H22 := Lib.hid h22
          have H11 := Lib.hid h11
          clear hj2 hfa h22 h11 hsl h21
          generalize nx j2 = f2 at *
          generalize nx i = s2 at *
          go_wp2
          have cx1 : ∀ x : Ext w.heap.size wr, x.val.cell? ⟨b, i * 2 + 1, none⟩ = some (spotV b s2) := fun x => (x.property.cell (p := ⟨b, i * 2 + 1, none⟩) hbl).trans hci
          have cx2 : ∀ x : Ext w.heap.size wr, x.val.cell? ⟨b, j * 2 + 1, none⟩ = some (.pointer (some ⟨b, j2 * 2, none⟩)) := fun x => (x.property.cell (p := ⟨b, j * 2 + 1, none⟩) hbl).trans hcj
          have cx3 : ∀ x : Ext w.heap.size wr, x.val.cell? ⟨b, j2 * 2 + 1, none⟩ = some (spotV b f2) := fun x => (x.property.cell (p := ⟨b, j2 * 2 + 1, none⟩) hbl).trans hc2
          refine wp_region_ext w.heap.size (by kernel_rfl) (by kernel_rfl) ?_
          repeat (go_big_quiet_step (fail))
          refine wpQuiet_nil ?_
          intro w2 hw'
          obtain ⟨xw, hxw⟩ := hw'
          have hb2 := xw.property
          rw [← hxw] at hb2
          clear hxw xw cx1 cx2 cx3 hcj hc2 hci
          have hbw := hb.trans hb2
          have HEQ : Hid (s2 = f2 → Meet nx s s2) := fun e => (HM.out s2).2 (.inr ⟨k + 1, by omega, H11.out.symm, by rw [H11.out, H22.out, e]⟩)
          have HNE : Hid (s2 ≠ f2 → k + 1 < K) := by
            intro e
            rcases Nat.lt_or_ge (k + 1) K with h1 | h1
            · exact h1
            · exfalso
              have : k + 1 = K := by omega
              have h2 := HK3.out
              rw [← this, H11.out, H22.out] at h2
              exact e h2
          have HNX : Hid (s2 = ob (k + 1) ∧ f2 = ob (2 * (k + 1))) := ⟨H11.out.symm, H22.out.symm⟩
          clear H11 H22
          cases s2 with
          | none =>
            cases f2 with
            | none =>
              have HT := Lib.hid (HEQ.out rfl)
              rw [show spotV b none = .pointer none from rfl]
              go_wp2
              go_ret
              exact ⟨⟨none, rfl, HT.out⟩, hbw⟩
            | some j3 =>
              exfalso
              have h1 := HG.out _ _ HNX.out.1.symm (show k + 1 ≤ 2 * (k + 1) by omega)
              rw [← HNX.out.2] at h1; cases h1
          | some i2 =>
            cases f2 with
            | none =>
              have hk2 := HNE.out (by intro h; cases h)
              rw [show spotV b none = .pointer none from rfl, show spotV b (some i2) = .pointer (some ⟨b, i2 * 2, none⟩) from rfl]
              have HFIN := Lib.hid (Run.next (X := .pointer (some ⟨b, i2 * 2, none⟩)) (Y := .pointer none) HK1.out hk2 (by rw [← HNX.out.1]; rfl) (by rw [← HNX.out.2]; rfl))
              go_wp2
              go_roundw
              case rel => exact ⟨HFIN.out.1, hbw⟩
              case measure => exact HFIN.out.2
            | some j3 =>
              rw [show spotV b (some j3) = .pointer (some ⟨b, j3 * 2, none⟩) from rfl, show spotV b (some i2) = .pointer (some ⟨b, i2 * 2, none⟩) from rfl]
              by_cases e : i2 = j3
              · subst e
                have hq := eqlp_yes w2 ⟨b, i2 * 2, none⟩
                have HT := Lib.hid (HEQ.out rfl)
                go_wp2
                go_ret
                exact ⟨⟨some i2, rfl, HT.out⟩, hbw⟩
              · have hk2 := HNE.out (fun h => e (Option.some.inj h))
                have hq := eqlp_no w2 b nx (hS.below hbw) i2 j3 e
                have HFIN := Lib.hid (Run.next (X := .pointer (some ⟨b, i2 * 2, none⟩)) (Y := .pointer (some ⟨b, j3 * 2, none⟩)) HK1.out hk2 (by rw [← HNX.out.1]; rfl) (by rw [← HNX.out.2]; rfl))
                go_wp2
                go_roundw
                case rel => exact ⟨HFIN.out.1, hbw⟩
                case measure => exact HFIN.out.2
end Go.Proofs.Ytbgchjjaaelkbaa
namespace Go.PW
open Go.RowKit Go.PM
/-- two pointers that walk side by side: r rounds are left -/
def Run2 (ob : Nat → Option Nat) (b k D : Nat) (r : Nat) (x y : Value) : Prop := ∃ j, j + r = D ∧ x = spotV b (ob j) ∧ y = spotV b (ob (k + j))
theorem Run2.next {ob : Nat → Option Nat} {b k D j : Nat} {X Y X0 Y0 : Value} (h1 : j + least (fun r => Run2 ob b k D r X0 Y0) = D) (hk : j < D) (hX : X = spotV b (ob (j + 1))) (hY : Y = spotV b (ob (k + (j + 1)))) :
    (∃ r, Run2 ob b k D r X Y) ∧ least (fun r => Run2 ob b k D r X Y) < least (fun r => Run2 ob b k D r X0 Y0) := by
  have h : Run2 ob b k D (D - (j + 1)) X Y := ⟨j + 1, by omega, hX, hY⟩
  refine ⟨⟨_, h⟩, ?_⟩
  have := (least_spec (P := fun r => Run2 ob b k D r X Y) ⟨_, h⟩).2 _ h
  omega
/-- one pointer that walks, and a counter -/
def Run1 (ob : Nat → Option Nat) (b D : Nat) (r : Nat) (x : Value) (n : Value) : Prop := ∃ j : Nat, j + r = D ∧ x = spotV b (ob j) ∧ n = .int .i64 j
end Go.PW
namespace Go.Proofs.Ytbgchjjaaelkbaa
open Go.RowKit Go.PM Go.PW Go.Lib

set_option maxRecDepth 100000 in
set_option maxHeartbeats 1000000 in
theorem entrance_c (b : Nat) (nx : Nat → Option Nat) (hn : Nice nx) (s : Nat) (hs : s < 19) (w : World) (hS : Spots w b nx) :
    Calls Try.prog 124 #[spotV b (some s)] w fun e w' => (∃ m, e = .returned (spotV b m) ∧ Ent nx s m) ∧ Below w.heap.size w w' := by
  have hrho := way_rho hn hs
  have HSec := Lib.hid (fun m (h : Meet nx s m) => hrho.second h)
  obtain ⟨D0, hD0, _⟩ := hrho.stops
  have HEn : Hid (∀ k, orb nx s k = none → Ent nx s none) := fun k hk => ⟨D0, hD0, .inl ⟨rfl, k, hk⟩⟩
  have HEs : Hid (∀ D, Stops nx s D → (∀ i, orb nx s i ≠ none) → Ent nx s (orb nx s D)) := fun D hD h => ⟨D, hD, .inr ⟨rfl, h⟩⟩
  have HL := Lib.hid (fun k i (h : orb nx s k = some i) => orb_lt hn hs k i h)
  have HO := Lib.hid (show ∀ k, orb nx s (k + 1) = (orb nx s k).bind nx from fun _ => rfl)
  have HZ : Hid (orb nx s 0 = some s) := rfl
  have hbl := hS.lt
  have HMT := Lib.hid (meeting_c b nx hn s hs w hS)
  clear hrho hD0 hn
  change Calls Try.prog _ #[.pointer (some ⟨b, s * 2, none⟩)] w _
  go_enter Try.func124, Try.ntmps124
  go_wp2_with fail
  refine HMT.out.mono ?_
  rintro e w1 ⟨⟨m, rfl, hm⟩, hb1⟩
  have hS1 := hS.below hb1
  have hs1 := hb1.size
  rcases HSec.out m hm with ⟨rfl, k, hk⟩ | ⟨k, D, hD, rfl, hne, heq, hall⟩
  · have HF := Lib.hid (HEn.out k hk)
    clear hm hk
    rw [show spotV b none = .pointer none from rfl]
    go_wp2
    refine wp_loop_rounds 1 ?_
    rw [rounds_succ]
    go_wp2
    go_ret
    exact ⟨⟨none, rfl, HF.out⟩, hb1⟩
  · have HF := Lib.hid (HEs.out D hD hall)
    have HNE := Lib.hid hne
    have HEQ := Lib.hid heq
    have HA := Lib.hid hall
    clear hm hD hne heq hall HEn HEs HSec HMT
    generalize orb nx s = ob at *
    go_wp2
    go_loopw [3, 4] (fun x y wr => (∃ r, Run2 ob b k D r x y) ∧ Below w.heap.size w wr) (fun x y _ => least (fun r => Run2 ob b k D r x y))
    case atStart => exact ⟨⟨D, 0, by omega, by rw [HZ.out]; rfl, rfl⟩, hb1⟩
    case round =>
      obtain ⟨hru, hb⟩ := hrel
      obtain ⟨j, hk0, e3, e4⟩ := (least_spec hru).1
      clear hru
      have HK0 := Lib.hid hk0
      have hk : j ≤ D := by omega
      clear hk0
      subst e3 e4
      have hS2 := hS.below hb
      have hbs := hb.size
      cases hx : ob j with
      | none => exact absurd hx (HA.out _)
      | some x =>
        cases hy : ob (k + j) with
        | none => exact absurd hy (HA.out _)
        | some y =>
          rw [show spotV b (some x) = .pointer (some ⟨b, x * 2, none⟩) from rfl, show spotV b (some y) = .pointer (some ⟨b, y * 2, none⟩) from rfl]
          have HK1 : Hid (j + least (fun r => Run2 ob b k D r (.pointer (some ⟨b, x * 2, none⟩)) (.pointer (some ⟨b, y * 2, none⟩))) = D) := by
            have h0 := HK0.out
            rw [hx, hy] at h0
            exact h0
          by_cases hj : j = D
          · have e : x = y := by
              have h := HEQ.out
              rw [← hj, hx, hy] at h
              exact Option.some.inj h
            subst e
            have HR : Hid (ob D = some x) := by show _ = _; rw [← hj]; exact hx
            have hq := neqp_yes wr ⟨b, x * 2, none⟩
            clear hx hy hj HK0 HK1
            go_wp2
            go_ret
            exact ⟨⟨some x, rfl, by rw [← HR.out]; exact HF.out⟩, hb⟩
          · have hjD : j < D := by omega
            have e : ¬ x = y := fun e => HNE.out j hjD (by rw [hx, hy, e])
            have hq := neqp_no wr b nx hS2 x y e
            have hxl := HL.out _ _ hx
            have hyl := HL.out _ _ hy
            have hcx := hS2.src x hxl
            have hcy := hS2.src y hyl
            have h1 : ob (j + 1) = nx x := by rw [HO.out, hx]; rfl
            have h2 : ob (k + (j + 1)) = nx y := by rw [← Nat.add_assoc, HO.out, hy]; rfl
            have HFIN := Lib.hid (Run2.next (X := spotV b (nx x)) (Y := spotV b (nx y)) HK1.out hjD (by rw [h1]) (by rw [h2]))
            clear hx hy h1 h2 HK0 HK1
            generalize nx x = x2 at *
            generalize nx y = y2 at *
            go_wp2
            have cx1 : ∀ x_1 : Ext w.heap.size wr, x_1.val.cell? ⟨b, x * 2 + 1, none⟩ = some (spotV b x2) := fun x_1 => (x_1.property.cell (p := ⟨b, x * 2 + 1, none⟩) hbl).trans hcx
            have cx2 : ∀ x_1 : Ext w.heap.size wr, x_1.val.cell? ⟨b, y * 2 + 1, none⟩ = some (spotV b y2) := fun x_1 => (x_1.property.cell (p := ⟨b, y * 2 + 1, none⟩) hbl).trans hcy
            refine wp_region_ext w.heap.size (by kernel_rfl) (by kernel_rfl) ?_
            repeat (go_big_quiet_step (fail))
            refine wpQuiet_nil ?_
            intro w2 hw'
            obtain ⟨xw, hxw⟩ := hw'
            have hb2 := xw.property
            rw [← hxw] at hb2
            clear hxw xw cx1 cx2 hcx hcy hq
            have hbw := hb.trans hb2
            go_wp2
            go_roundw
            case rel => exact ⟨HFIN.out.1, hbw⟩
            case measure => exact HFIN.out.2
end Go.Proofs.Ytbgchjjaaelkbaa
namespace Go.Proofs.Ytbgchjjaaelkbaa
open Go.RowKit Go.PM Go.PW Go.Lib

set_option maxRecDepth 100000 in
set_option maxHeartbeats 1000000 in
theorem depth_c (b : Nat) (nx : Nat → Option Nat) (hn : Nice nx) (s : Nat) (hs : s < 19) (D : Nat) (hD : Stops nx s D) (w : World) (hS : Spots w b nx) :
    Calls Try.prog 87 #[spotV b (some s)] w fun e w' => e = .returned (.int .i64 D) ∧ Below w.heap.size w w' := by
  have hrho := way_rho hn hs
  have HB := Lib.hid (fun e (h : Ent nx s e) => Ent.before hrho h hD)
  have HL := Lib.hid (fun k i (h : orb nx s k = some i) => orb_lt hn hs k i h)
  have HO := Lib.hid (show ∀ k, orb nx s (k + 1) = (orb nx s k).bind nx from fun _ => rfl)
  have HZ : Hid (orb nx s 0 = some s) := rfl
  have HD1 := Lib.hid hD.before
  have HD2 := Lib.hid hD.at_
  have hD19 := hD.lt
  have hbl := hS.lt
  have HMT := Lib.hid (entrance_c b nx hn s hs w hS)
  clear hrho hD hn
  change Calls Try.prog _ #[.pointer (some ⟨b, s * 2, none⟩)] w _
  go_enter Try.func87, Try.ntmps87
  go_wp2_with fail
  refine HMT.out.mono ?_
  rintro e w1 ⟨⟨m, rfl, hm⟩, hb1⟩
  have hs1 := hb1.size
  have HBM := Lib.hid (HB.out m hm)
  clear HB hm HMT
  generalize orb nx s = ob at *
  go_wp2
  go_loopw [4, 5] (fun n x wr => ∃ j : Nat, j ≤ D ∧ n = .int .i64 j ∧ x = spotV b (ob j) ∧ Below w.heap.size w wr) (fun n _ _ => D - (RowKit.intOf n).toNat)
  case atStart => exact ⟨0, by omega, rfl, by rw [HZ.out]; rfl, hb1⟩
  case round =>
    obtain ⟨j, hj, rfl, rfl, hb⟩ := hrel
    have hS2 := hS.below hb
    have hbs := hb.size
    by_cases hjD : j < D
    · obtain ⟨x, t, hx, ht, _⟩ := HD1.out j hjD
      have hxl := HL.out _ _ hx
      have hcx := hS2.src x hxl
      rw [ht, show spotV b (some t) = .pointer (some ⟨b, t * 2, none⟩) from rfl] at hcx
      have hne := HBM.out.1 j hjD
      rw [hx] at hne
      have HN : Hid (Value.pointer (some ⟨b, t * 2, none⟩) = spotV b (ob (j + 1))) := by show _ = _; rw [HO.out, hx]; show _ = spotV b (nx x); rw [ht]; rfl
      rw [hx, show spotV b (some x) = .pointer (some ⟨b, x * 2, none⟩) from rfl]
      clear hx ht
      cases m with
      | none =>
        rw [show spotV b none = .pointer none from rfl]
        clear hne HBM
        go_wp2
        go_roundw
        case rel => exact ⟨j + 1, by omega, by go_num, HN.out, hb⟩
        case measure => simp [RowKit.intOf]; omega
      | some y =>
        have e : ¬ x = y := fun e => hne (by rw [e])
        have hq := neqp_no wr b nx hS2 x y e
        rw [show spotV b (some y) = .pointer (some ⟨b, y * 2, none⟩) from rfl]
        clear hne HBM
        go_wp2
        go_roundw
        case rel => exact ⟨j + 1, by omega, by go_num, HN.out, hb⟩
        case measure => simp [RowKit.intOf]; omega
    · have hjD : j = D := by omega
      subst hjD
      obtain ⟨x, hx, _⟩ := HD2.out
      have hxl := HL.out _ _ hx
      have hcx := hS2.src x hxl
      have hor := HBM.out.2
      rw [hx, show spotV b (some x) = .pointer (some ⟨b, x * 2, none⟩) from rfl]
      by_cases hm : some x = m
      · subst hm
        have hq := neqp_yes wr ⟨b, x * 2, none⟩
        rw [show spotV b (some x) = .pointer (some ⟨b, x * 2, none⟩) from rfl]
        clear hx hor HBM
        go_wp2
        go_ret
        exact ⟨rfl, hb⟩
      · have hnn : nx x = none := by
          rcases hor with h | ⟨i, h1, h2⟩
          · rw [hx] at h; exact absurd h hm
          · rw [hx] at h1; cases h1; exact h2
        rw [hnn, show spotV b none = .pointer none from rfl] at hcx
        clear hx hor HBM hnn
        cases m with
        | none =>
          rw [show spotV b none = .pointer none from rfl]
          go_wp2
          go_ret
          exact ⟨rfl, hb⟩
        | some y =>
          have e : ¬ x = y := fun e => hm (by rw [e])
          have hq := neqp_no wr b nx hS2 x y e
          rw [show spotV b (some y) = .pointer (some ⟨b, y * 2, none⟩) from rfl]
          go_wp2
          go_ret
          exact ⟨rfl, hb⟩

set_option maxRecDepth 100000 in
set_option maxHeartbeats 1000000 in
theorem wayBack_c (b : Nat) (nx : Nat → Option Nat) (hn : Nice nx) (s : Nat) (hs : s < 19) (w : World) (hS : Spots w b nx) :
    Calls Try.prog 125 #[spotV b (some s)] w fun e w' => e = .returned (.string (txt (way nx s))) ∧ Below w.heap.size w w' := by
  have HZ : Hid (way nx s = wayF nx 20 [] (some s)) := rfl
  have HO := Lib.hid (show ∀ k, orb nx s (k + 1) = (orb nx s k).bind nx from fun _ => rfl)
  have HSN := Lib.hid (fun acc i (h : Acc nx s acc) (hi : orb nx s acc.length = some i) hm => h.snoc hn hs hi hm)
  have HST := Lib.hid (fun n acc i (hm : i ∉ acc) => wayF_step (nx := nx) (n := n) hm)
  have HHT := Lib.hid (fun n acc i (hm : i ∈ acc) => wayF_hit (nx := nx) (n := n) hm)
  have HNO := Lib.hid (fun n acc => wayF_none (nx := nx) (n := n) (acc := acc))
  have HL := Lib.hid (fun k i (h : orb nx s k = some i) => orb_lt hn hs k i h)
  have HAN := Lib.hid (Acc.nil (nx := nx) s)
  have HORB0 : Hid (orb nx s 0 = some s) := rfl
  have hbl := hS.lt
  have hcon : ∀ (t : ByteArray) c (W : World), Calls Try.prog 118 #[.string t, .string ⟨#[c]⟩] W fun e w' => e = .returned (.bool (decide (c ∈ t.data.toList))) ∧ W = w' := fun t c W =>
    (Try.strings_Contains_one t c W).mono fun _ _ ⟨e1, e2⟩ => ⟨by
      rw [e1]; congr 2; simp only [indexByte_mem], e2.symm⟩
  have HC := Lib.hid hcon
  clear hcon hn
  change Calls Try.prog _ #[.pointer (some ⟨b, s * 2, none⟩)] w _
  go_enter Try.func125, Try.ntmps125
  go_wp2
  go_loopw [3, 4] (fun o x wr => ∃ (acc : List Nat) (n : Nat) (c : Option Nat), o = .string (txt acc) ∧ x = spotV b c ∧ acc.length + n = 20 ∧ Hid (Acc nx s acc ∧ orb nx s acc.length = c ∧ way nx s = wayF nx n acc c) ∧ Below w.heap.size w wr) (fun o _ _ => 20 - strLen o)
  case atStart => exact ⟨[], 20, some s, rfl, rfl, rfl, ⟨HAN.out, HORB0.out, HZ.out⟩, Below.refl _ _⟩
  case round =>
    obtain ⟨acc, n, c, rfl, rfl, hn20, hA, hb⟩ := hrel
    have hbs := hb.size
    have hS2 := hS.below hb
    have hal := hA.out.1.len
    have hz := txt_size acc
    cases c with
    | none =>
      have HF : Hid (way nx s = acc) := by show _ = _; rw [hA.out.2.2]; exact HNO.out n acc
      rw [show spotV b none = .pointer none from rfl]
      clear hA
      go_wp2
      go_ret
      exact ⟨by rw [HF.out]; rfl, hb⟩
    | some i =>
      have hil := HL.out _ _ hA.out.2.1
      have hcn := hS2.name i hil
      have hcs := hS2.src i hil
      have hone : sn i = ⟨#[ch i]⟩ := rfl
      rw [hone] at hcn
      have HM := Lib.hid (txt_mem hA.out.1.lt hil)
      have HTS := Lib.hid (txt_snoc acc i)
      have hcc := fun W => HC.out (txt acc) (ch i) W
      have HONE := Lib.hid hone
      clear hone
      rw [show spotV b (some i) = .pointer (some ⟨b, i * 2, none⟩) from rfl]
      have hc1 : (⟨#[ch i]⟩ : ByteArray).size = 1 := rfl
      by_cases hin : i ∈ acc
      · have HF : Hid (way nx s = acc) := by show _ = _; rw [hA.out.2.2]; exact HHT.out n acc i hin
        have hd : decide (ch i ∈ (txt acc).data.toList) = true := by simpa using HM.out.2 hin
        rw [hd] at hcc
        have HCC := Lib.hid hcc
        clear hcc hd hA HM hin
        generalize ch i = c at *
        go_wp2_with (go_at_call 118; refine (HCC.out _).mono ?_; rintro e w' ⟨rfl, rfl⟩)
        go_ret
        exact ⟨by rw [HF.out]; rfl, hb⟩
      · obtain ⟨n', rfl⟩ : ∃ n', n = n' + 1 := ⟨n - 1, by omega⟩
        have hd : decide (ch i ∈ (txt acc).data.toList) = false := by simpa using fun h => hin (HM.out.1 h)
        rw [hd] at hcc
        have HCC := Lib.hid hcc
        have HN : Hid (Acc nx s (acc ++ [i]) ∧ orb nx s (acc ++ [i]).length = nx i ∧ way nx s = wayF nx n' (acc ++ [i]) (nx i)) := by
          refine ⟨HSN.out acc i hA.out.1 hA.out.2.1 hin, ?_, ?_⟩
          · rw [show (acc ++ [i]).length = acc.length + 1 by simp, HO.out, hA.out.2.1]; rfl
          · rw [hA.out.2.2, HST.out _ _ _ hin]
        clear hcc hd hA HM hin
        generalize ch i = c at *
        generalize nx i = ni at *
        go_wp2_with (go_at_call 118; refine (HCC.out _).mono ?_; rintro e w' ⟨rfl, rfl⟩)
        go_roundw
        case rel => exact ⟨acc ++ [i], n', ni, by rw [HTS.out, HONE.out], rfl, by simp; omega, HN, hb⟩
        case measure => simp [strLen, ByteArray.size_append, hc1, hz]; omega
end Go.Proofs.Ytbgchjjaaelkbaa
namespace Go.PW
open Go.RowKit Go.PM
/-- the cells of the spots: names and sources -/
def spA (n : Nat → ByteArray) (s : Nat → Value) : Array Value := Array.ofFn (n := 38) fun j => if j.val % 2 = 0 then .string (n (j.val / 2)) else s (j.val / 2)
theorem spA_size (n : Nat → ByteArray) (s : Nat → Value) : (spA n s).size = 38 := by simp [spA]
theorem spA_name (n : Nat → ByteArray) (s : Nat → Value) (i : Nat) (hi : i < 19) : (spA n s)[i * 2]? = some (.string (n i)) := by
  have h : i * 2 < 38 := by omega
  simp [spA, h]
theorem spA_src (n : Nat → ByteArray) (s : Nat → Value) (i : Nat) (hi : i < 19) : (spA n s)[i * 2 + 1]? = some (s i) := by
  have h : i * 2 + 1 < 38 := by omega
  have h2 : ¬ (i * 2 + 1) % 2 = 0 := by omega
  have h3 : (i * 2 + 1) / 2 = i := by omega
  simp [spA, h, h3]
theorem spA_setName (n : Nat → ByteArray) (s : Nat → Value) (i : Nat) (_hi : i < 19) (x : ByteArray) : (spA n s).setIfInBounds (i * 2) (.string x) = spA (upd n i x) s := by
  apply Array.ext
  · simp [spA]
  · intro j h1 h2
    rw [Array.getElem_setIfInBounds (by simpa [spA] using h2)]
    simp only [spA, Array.getElem_ofFn, upd]
    by_cases e : i * 2 = j
    · subst e
      simp
    · by_cases e2 : j % 2 = 0
      · have : ¬ j / 2 = i := by omega
        simp [e, e2, this]
      · simp [e, e2]
theorem spA_setSrc (n : Nat → ByteArray) (s : Nat → Value) (i : Nat) (_hi : i < 19) (x : Value) : (spA n s).setIfInBounds (i * 2 + 1) x = spA n (fun q => if q = i then x else s q) := by
  apply Array.ext
  · simp [spA]
  · intro j h1 h2
    rw [Array.getElem_setIfInBounds (by simpa [spA] using h2)]
    simp only [spA, Array.getElem_ofFn]
    by_cases e : i * 2 + 1 = j
    · subst e
      have h2 : ¬ (i * 2 + 1) % 2 = 0 := by omega
      have h3 : (i * 2 + 1) / 2 = i := by omega
      simp [h3]
    · by_cases e2 : j % 2 = 0
      · simp [e, e2]
      · have : ¬ j / 2 = i := by omega
        simp [e, e2, this]
abbrev zS : Array Value := #[.string ⟨#[]⟩, .pointer none, .string ⟨#[]⟩, .pointer none, .string ⟨#[]⟩, .pointer none, .string ⟨#[]⟩, .pointer none, .string ⟨#[]⟩, .pointer none, .string ⟨#[]⟩, .pointer none, .string ⟨#[]⟩, .pointer none, .string ⟨#[]⟩, .pointer none, .string ⟨#[]⟩, .pointer none, .string ⟨#[]⟩, .pointer none, .string ⟨#[]⟩, .pointer none, .string ⟨#[]⟩, .pointer none, .string ⟨#[]⟩, .pointer none, .string ⟨#[]⟩, .pointer none, .string ⟨#[]⟩, .pointer none, .string ⟨#[]⟩, .pointer none, .string ⟨#[]⟩, .pointer none, .string ⟨#[]⟩, .pointer none, .string ⟨#[]⟩, .pointer none]
theorem zS_eq : zS = spA (fun _ => emp) (fun _ => .pointer none) := rfl
/-- the first k names are laid -/
def nmK (k : Nat) : Nat → ByteArray := fun i => if i < k then sn i else emp
theorem nmK_zero : nmK 0 = fun _ => emp := by funext i; simp [nmK]
theorem nmK_succ (k : Nat) : upd (nmK k) k (sn k) = nmK (k + 1) := by
  funext i
  unfold upd nmK
  by_cases h : i = k
  · subst h; simp
  · by_cases h2 : i < k
    · simp [h, h2, Nat.lt_succ_of_lt h2]
    · have : ¬ i < k + 1 := by omega
      simp [h, h2, this]
/-- the first k sources are laid -/
def srcK (f : Nat → ByteArray) (b k : Nat) : Nat → Value := fun i => if i < k then spotV b (nxT f i) else .pointer none
theorem srcK_zero (f : Nat → ByteArray) (b : Nat) : srcK f b 0 = fun _ => .pointer none := by funext i; simp [srcK]
theorem srcK_succ (f : Nat → ByteArray) (b k : Nat) : (fun q => if q = k then spotV b (nxT f k) else srcK f b k q) = srcK f b (k + 1) := by
  funext i
  unfold srcK
  by_cases h : i = k
  · subst h; simp
  · by_cases h2 : i < k
    · simp [h, h2, Nat.lt_succ_of_lt h2]
    · have : ¬ i < k + 1 := by omega
      simp [h, h2, this]
theorem srcK_same (f : Nat → ByteArray) (b k : Nat) (h : nxT f k = none) : srcK f b k = srcK f b (k + 1) := by
  rw [← srcK_succ, h]
  funext i
  by_cases h : i = k
  · subst h; simp [srcK, spotV]
  · simp [h]
end Go.PW
namespace Go.Proofs.Ytbgchjjaaelkbaa
open Go.RowKit Go.PM Go.PW Go.Lib
attribute [local go_sem] Oper.semAt_some

set_option maxRecDepth 100000 in
set_option maxHeartbeats 800000 in
theorem spotsOf_c (f : Nat → ByteArray) (hf : SV f) (w : World) :
    Calls Try.prog 79 #[tabX f] w fun e w' => (∃ b, e = .returned (.pointer (some ⟨b, 0, none⟩)) ∧ w.heap.size ≤ b ∧ Spots w' b (nxT f)) ∧ Below w.heap.size w w' := by
  have HEX : Hid (∀ q, q < 19 → (ByteArray.mk #[97, 98, 99, 100, 101, 102, 65, 66, 67, 48, 49, 50, 51, 52, 53, 54, 55, 56, 57]).extract q (q+1) = sn q) := by
    show ∀ q, _
    intro q hq
    rw [extract_one _ _ (by show q < 19; exact hq)]; rfl
  refine (callsIn_wide (n := 5)).1 ?_
  refine callsIn_of_wp_marks Try.func79 rfl trivial ?_ rfl
  simp only [Try.ntmps79, List.size_toArray, List.length_cons, List.length_nil, Nat.reduceAdd, Nat.reduceSub, Array.replicate_succ, Array.replicate_zero, List.push_toArray, List.append_toArray, List.nil_append, List.cons_append]
  gi_wp2
  gi_loopw [4, 10] (fun _ i wr => ∃ k : Nat, k ≤ 19 ∧ i = .int .i64 k ∧ At wr w.heap.size 73 (tabA f) ∧ At wr (w.heap.size + 1) 135 (spA (nmK k) (fun _ => .pointer none)) ∧ At wr (w.heap.size + 2) 84 #[.pointer (some ⟨w.heap.size + 1, 0, none⟩)] ∧ Below w.heap.size w wr) (fun _ i _ => 19 - (RowKit.intOf i).toNat)
  case atStart =>
    refine ⟨0, by omega, rfl, ?_, ?_, ?_, by (repeat' (first | (with_reducible exact Below.refl _ _) | (with_reducible assumption) | (with_reducible refine Below.alloc ?_ ?_ _) | (with_reducible refine Below.drew ?_) | (with_reducible refine Below.setCell ?_ ?_ _) | (with_reducible exact Nat.le_refl _) | omega | ((repeat (first | rewrite [World.size_alloc] | rewrite [World.size_setCell] | rewrite [World.size_drew])); omega) | (simp; omega) | (simp; done)))⟩
    · exact ((At.new _ _ _).alloc _).alloc _
    · rw [nmK_zero, ← zS_eq]
      have := At.new (w.alloc (.cells (tabA f) 73)) 135 zS
      rw [World.size_alloc] at this
      exact this.alloc _
    · have := At.new ((w.alloc (.cells (tabA f) 73)).alloc (.cells zS 135)) 84 #[.pointer (some ⟨w.heap.size + 1, 0, none⟩)]
      rw [World.size_alloc, World.size_alloc] at this
      exact this
  case round =>
    obtain ⟨k, hk, rfl, h1, h2, h3, hb⟩ := hrel
    have hbs := hb.size
    by_cases hlt : k < 19
    · have hc3 : wr.drew.cell? ⟨w.heap.size + 2, 0, none⟩ = some (.pointer (some ⟨w.heap.size + 1, 0, none⟩)) := h3.cell 0
      have hl2 := h2.lt
      have hc2 : wr.drew.cell? ⟨w.heap.size + 1, k * 2, none⟩ = some (.string (nmK k k)) := (h2.cell (k * 2)).trans (spA_name _ _ k hlt)
      have hf2 : wr.drew.frozen? ⟨w.heap.size + 1, k * 2, none⟩ = false := h2.frozen (k * 2)
      have hex := HEX.out k hlt
      have HSET := Lib.hid (spA_setName (nmK k) (fun _ => .pointer none) k hlt (sn k))
      have i0 : (0 : Int) ≤ (k : Int) := by omega
      have i1 : (k : Int) < 19 := by omega
      gi_wp2
      refine regionIn_tail (F := Fence.wide) (C := fun w' => w' = wr.drew) 9 rfl (by kernel_rfl) (by kernel_rfl) rfl ?_
      simp only [List.take_succ_cons, List.take_zero, List.drop_succ_cons, List.drop_zero]
      repeat (gi_big_quiet_step (fail))
      refine wpQuietIn_nil ?_
      intro w' hw'
      subst hw'
      have d1 := h1.far (p := ⟨w.heap.size + 1, k * 2, none⟩) (by simp) (.string (sn k))
      have d2 := h2.set (k * 2) (.string (sn k))
      have d3 := h3.far (p := ⟨w.heap.size + 1, k * 2, none⟩) (by simp) (.string (sn k))
      rw [HSET.out, nmK_succ] at d2
      clear h1 h2 h3
      gi_wp2
      go_roundw
      case rel => exact ⟨k + 1, by omega, by go_num, d1, d2, d3, by (repeat' (first | (with_reducible exact Below.refl _ _) | (with_reducible assumption) | (with_reducible refine Below.alloc ?_ ?_ _) | (with_reducible refine Below.drew ?_) | (with_reducible refine Below.setCell ?_ ?_ _) | (with_reducible exact Nat.le_refl _) | omega | ((repeat (first | rewrite [World.size_alloc] | rewrite [World.size_setCell] | rewrite [World.size_drew])); omega) | (simp; omega) | (simp; done)))⟩
      case measure => simp [RowKit.intOf]; omega
    · have hk19 : k = 19 := by omega
      have HNE := Lib.hid (fun p (hp : p < 9) => sx_lt hf hp)
      rw [hk19] at h2
      have HK := Lib.hid hk19
      clear hk19
      have hs1 := h1.lt
      have hs2 := h2.lt
      have hs3 := h3.lt
      gi_wp2
      refine range_law (F := Fence.wide) (gf := 121) (lf := #[.int .i64 9]) (lb := #[]) rfl (by decide) rfl trivial (fun args w => rfl) (encs := fun p : Nat => #[.int .i64 p]) (xs := List.range 9)
        (below_iter _ _ trivial rfl (by decide)) (fun _ => rfl)
        (fun pre W => At W w.heap.size 73 (tabA f) ∧ At W (w.heap.size + 1) 135 (spA (nmK 19) (srcK f (w.heap.size + 1) pre.length)) ∧ At W (w.heap.size + 2) 84 #[.pointer (some ⟨w.heap.size + 1, 0, none⟩)] ∧ Below w.heap.size w W)
        (fun _ _ _ => False) ?own (fun _ => ownFrom_pure _ _) ?start ?a1 ?assign ?body ?done ?stop
      case own =>
        rintro s A A' row ⟨q1, q2, q3, q4⟩ hg hr
        have hr' : ∀ r, row = some r → w.heap.size + 3 ≤ r := fun r e => by have := (hr r e).1; omega
        refine ⟨(hg.block _ q1.lt (fun e => ?_)).trans q1, (hg.block _ q2.lt (fun e => ?_)).trans q2, (hg.block _ q3.lt (fun e => ?_)).trans q3, q4.trans (below_grown hg q4.size (fun g e => ?_))⟩
        · have := hr' _ e.symm; omega
        · have := hr' _ e.symm; omega
        · have := hr' _ e.symm; omega
        · have := hr' _ e; omega
      case start => exact ⟨h1, by rw [List.length_nil, srcK_zero]; exact h2, h3, hb⟩
      case assign =>
        intro l p W Kc hK
        gi_wp2
        exact hK
      case body =>
        rintro l pre p W ⟨q1, q2, q3, q4⟩ hp hsz
        obtain ⟨hl, hp9⟩ := pre_len pre p hp
        rw [hl] at q2
        have HL : Hid ((pre ++ [p]).length = p + 1) := by show _ = _; simp [hl]
        have HSRC := Lib.hid (fun W => source_c f p hp9 W)
        have hsx := (HNE.out p hp9).1
        have HSN : Hid (srcT f p = sn (sx f p)) := (HNE.out p hp9).2.symm
        have HNM : Hid (nm p = sn p) := (sn_nm p hp9).symm
        have HYES := Lib.hid (nxT_some (f := f) hp9)
        have HSTAY := Lib.hid (nxT_stay (f := f) hp9)
        have HS1 := Lib.hid (srcK_succ f (w.heap.size + 1) p)
        have HS2 := Lib.hid (srcK_same f (w.heap.size + 1) p)
        have HSET := Lib.hid (spA_setSrc (nmK 19) (srcK f (w.heap.size + 1) p) p (by omega))
        have hpos := fun W => positionIn_yes ⟨#[97, 98, 99, 100, 101, 102, 65, 66, 67, 48, 49, 50, 51, 52, 53, 54, 55, 56, 57]⟩ (ch (sx f p)) (sx f p) (ch_all _ hsx).1 W
        have HPOS := Lib.hid hpos
        have c0 : W.cell? ⟨w.heap.size, 0, none⟩ = some (.string (f 0)) := q1.cell 0
        have c1 : W.cell? ⟨w.heap.size, 1, none⟩ = some (.string (f 1)) := q1.cell 1
        have c2 : W.cell? ⟨w.heap.size, 2, none⟩ = some (.string (f 2)) := q1.cell 2
        have c3 : W.cell? ⟨w.heap.size, 3, none⟩ = some (.string (f 3)) := q1.cell 3
        have c4 : W.cell? ⟨w.heap.size, 4, none⟩ = some (.string (f 4)) := q1.cell 4
        have c5 : W.cell? ⟨w.heap.size, 5, none⟩ = some (.string (f 5)) := q1.cell 5
        have c6 : W.cell? ⟨w.heap.size, 6, none⟩ = some (.string (f 6)) := q1.cell 6
        have c7 : W.cell? ⟨w.heap.size, 7, none⟩ = some (.string (f 7)) := q1.cell 7
        have c8 : W.cell? ⟨w.heap.size, 8, none⟩ = some (.string (f 8)) := q1.cell 8
        clear hpos hl hf
        gi_wp2
        refine ⟨trivial, ?_⟩
        refine CallsIn.inRound l (callsIn_wide.2 ((HSRC.out W).mono ?_))
        rintro e W2 ⟨rfl, hb2⟩
        rw [HSN.out]
        have hz4 := q4.size
        have k1 := q1.keep hb2
        have k2 := q2.keep hb2
        have k3 := q3.keep hb2
        have k4 : Below w.heap.size w W2 := q4.trans (hb2.mono hz4)
        have kf := keepsFrom_below (B := wr.heap.size) hb2
        have kz := hb2.size
        clear c0 c1 c2 c3 c4 c5 c6 c7 c8 q1 q2 q3 q4 hb2
        have hone : sn (sx f p) = ⟨#[ch (sx f p)]⟩ := rfl
        by_cases hst : sx f p = p
        · have hnx := HSTAY.out hst
          have e1 : srcK f (w.heap.size + 1) p = srcK f (w.heap.size + 1) (p + 1) := HS2.out hnx
          rw [hst]
          rw [e1] at k2
          have HNM2 := Lib.hid (fun W => name_c p hp9 W)
          have hb1 : ((sn p).toList == (sn p).toList) = true := by simp
          gi_wp2
          refine ⟨trivial, CallsIn.inRound l (callsIn_wide.2 ((HNM2.out _).mono ?_))⟩
          rintro e wq ⟨rfl, rfl⟩
          rw [HNM.out]
          gi_wp2
          exact ⟨kf, KeepsIn.zero kz, k1, by rw [HL.out]; exact k2, k3, k4⟩
        · have hnx := HYES.out hst
          have e1 := HSET.out (spotV (w.heap.size + 1) (nxT f p))
          rw [HS1.out, hnx] at e1
          have E1 := Lib.hid e1
          have HNM2 := Lib.hid (fun W => name_c p hp9 W)
          have hb1 : ((sn (sx f p)).toList == (sn p).toList) = false := by
            rw [beq_str, decide_eq_false_iff_not]
            exact fun e => hst (sn_inj hsx (by omega) e)
          clear e1 hone hnx
          have HOLD := Lib.hid ((k2.cell (p * 2 + 1)).trans (spA_src (nmK 19) (srcK f (w.heap.size + 1) p) p (by omega)))
          generalize sx f p = j at *
          gi_wp2
          refine ⟨trivial, CallsIn.inRound l (callsIn_wide.2 ((HNM2.out _).mono ?_))⟩
          rintro e wq ⟨rfl, rfl⟩
          rw [HNM.out]
          gi_wp2
          refine ⟨trivial, CallsIn.inRound l (callsIn_wide.2 ((HPOS.out _).mono ?_))⟩
          rintro e wq ⟨rfl, rfl⟩
          have c3 : W2.drew.cell? ⟨w.heap.size + 2, 0, none⟩ = some (.pointer (some ⟨w.heap.size + 1, 0, none⟩)) := k3.cell 0
          have cq : W2.drew.cell? ⟨w.heap.size + 1, p * 2 + 1, none⟩ = some (srcK f (w.heap.size + 1) p p) := HOLD.out
          have fq : W2.drew.frozen? ⟨w.heap.size + 1, p * 2 + 1, none⟩ = false := k2.frozen _
          have l2 := k2.lt
          have i0 : (0 : Int) ≤ (p : Int) := by omega
          have i1 : (p : Int) < 19 := by omega
          have i2 : (0 : Int) ≤ (j : Int) := by omega
          have i3 : (j : Int) < 19 := by omega
          gi_wp2
          refine region_tail_inRound (F := Fence.wide) (C := fun w' => w' = W2.drew) 9 rfl (by kernel_rfl) (by kernel_rfl) (by kernel_rfl) rfl ?_
          simp only [List.take_succ_cons, List.take_zero, List.drop_succ_cons, List.drop_zero]
          repeat (gi_big_quiet_step (fail))
          refine wpQuietIn_nil ?_
          intro w' hw'
          subst hw'
          clear c3 hb1
          gi_wp2
          have d1 := k1.far (p := ⟨w.heap.size + 1, p * 2 + 1, none⟩) (by simp) (.pointer (some ⟨w.heap.size + 1, j * 2, none⟩))
          have d2 := k2.set (p * 2 + 1) (.pointer (some ⟨w.heap.size + 1, j * 2, none⟩))
          have d3 := k3.far (p := ⟨w.heap.size + 1, p * 2 + 1, none⟩) (by simp) (.pointer (some ⟨w.heap.size + 1, j * 2, none⟩))
          have d4 := k4.setCell (p := ⟨w.heap.size + 1, p * 2 + 1, none⟩) (by simp) (.pointer (some ⟨w.heap.size + 1, j * 2, none⟩))
          have e2 := E1.out
          rw [show spotV (w.heap.size + 1) (some j) = .pointer (some ⟨w.heap.size + 1, j * 2, none⟩) from rfl] at e2
          rw [e2] at d2
          refine ⟨(kf.trans ((KeepsOthers.setCell _ _ _).from _)).trans ((KeepsOthers.drew _).from _), KeepsIn.zero (by simp [World.size_setCell, World.size_drew]; exact kz), d1, by rw [HL.out]; exact d2, d3, d4.drew⟩
      case done =>
        intro D W hD hI hd
        obtain ⟨q1, q2, q3, q4⟩ := hI
        have hDD : w.heap.size + 3 ≤ D := by omega
        have l2 := q2.lt
        have q2' : At W (w.heap.size + 1) 135 (spA (nmK 19) (srcK f (w.heap.size + 1) 9)) := q2
        have c3 : W.cell? ⟨w.heap.size + 2, 0, none⟩ = some (.pointer (some ⟨w.heap.size + 1, 0, none⟩)) := q3.cell 0
        have HSP : Hid (Spots (W.putObj D (.deferred none)) (w.heap.size + 1) (nxT f)) := by
          have hA : At (W.putObj D (.deferred none)) (w.heap.size + 1) 135 (spA (nmK 19) (srcK f (w.heap.size + 1) 9)) := (World.putObj_heap_other (by omega)).trans q2'
          refine ⟨⟨_, _, hA⟩, fun i hi => ?_, fun i hi => ?_⟩
          · rw [hA.cell, spA_name _ _ i hi]; simp [nmK, hi]
          · rw [hA.cell, spA_src _ _ i hi]
            by_cases h9 : i < 9
            · simp [srcK, h9]
            · simp [srcK, h9, nxT_digit h9, spotV]
        clear q2
        gi_wp2
        refine ⟨by simp, .inl ⟨D, _, rfl, run_takeDeferred hd, ?_⟩⟩
        refine ⟨_, results_tmp rfl _ _ _, ⟨_, rfl, by omega, HSP.out⟩, ?_⟩
        exact q4.trans ⟨rfl, rfl, rfl, by simp [World.putObj], fun k hk => World.putObj_heap_other (by omega)⟩
      case stop =>
        intro _ _ _ _ _ _ hff
        exact hff.elim
end Go.Proofs.Ytbgchjjaaelkbaa
