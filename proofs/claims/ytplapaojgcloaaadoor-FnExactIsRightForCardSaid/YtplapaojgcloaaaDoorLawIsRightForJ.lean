/- Proved: for every input of the form's own reach the law FnExactIsRightFor answers true and its arguments read afterwards as before; no further condition. -/
import Derived.Test.YtplapaojgcloaaaDoorWaJC
import Derived.Test.YtplapaojgcloaaaDoorRow
import Derived.Deep.RegionHeld3
import Derived.Test.YtplapaojgcloaaaDoorSt4
import Derived.Test.YtplapaojgcloaaaDoorSt5
import Derived.Test.YtplapaojgcloaaaDoorTail
import Derived.Test.YtplapaojgcloaaaDoorIm3
import Derived.Test.YtplapaojgcloaaaDoorHar
import Derived.Test.YtplapaojgcloaaaDoorP2
import Derived.Test.YtplapaojgcloaaaDoorApp
import Derived.Test.YtplapaojgcloaaaDoorOpen
namespace Go.PE
open Go.PM Go.PD Go.RowKit
theorem irf_false {xs : List St} {ys : List Mv} {t : ByteArray} {p : Nat} (hp : p ∈ elN (wnN t.data.toList)) (h : runS xs xs.length nmT p ≠ aoS (tabOf ys) nmT p) : irfB xs ys t = false := by
  have : ((elN (wnN t.data.toList)).all fun p => decide (runS xs xs.length nmT p = aoS (tabOf ys) nmT p)) = false := List.all_eq_false.2 ⟨p, hp, by simpa using h⟩
  unfold irfB; rw [this]; simp
theorem irf_true {xs : List St} {ys : List Mv} {t : ByteArray} (h1 : svalid xs = true) (h2 : mvalid ys = true) (h3 : wvB t = true)
    (h : ∀ j, j < t.size → ∀ p, (elN (wnN t.data.toList))[j]? = some p → runS xs xs.length nmT p = aoS (tabOf ys) nmT p) : irfB xs ys t = true := by
  unfold irfB
  rw [h1, h2, h3, Bool.true_and, Bool.true_and, Bool.true_and, List.all_eq_true]
  intro p hp
  obtain ⟨j, hj, e⟩ := List.getElem_of_mem hp
  have hl : t.size = (elN (wnN t.data.toList)).length := by
    have := congrArg List.length (wv_list h3)
    rwa [List.length_map, size_data] at this
  exact decide_eq_true (h j (by omega) p (by rw [List.getElem?_eq_getElem hj, e]))
theorem irf_no {xs : List St} {ys : List Mv} {t : ByteArray} (h : (svalid xs && (mvalid ys && wvB t)) = false) : irfB xs ys t = false := by
  unfold irfB
  rw [← Bool.and_assoc (mvalid ys), ← Bool.and_assoc (svalid xs), h]; rfl
/-- one wanted place: the two texts that are compared -/
theorem irf_cmp {ys : List Mv} (h : MV ys) {p : Nat} (hp : p < 9) (g : Nat → UInt8) : (⟨#[rdS g (nm p)]⟩ : ByteArray) = srcM ys (nm p) ↔ g p = aoS (tabOf ys) nmT p := by
  unfold aoS
  rw [if_pos hp, srcM_nm h hp, rdS_nm g hp, ← one_inj, rd_name (srcM_isSr h p hp)]
end Go.PE
namespace Go.Proofs.YtplapaojgcloaaaDoor
open Go.RowKit Go.PM Go.PE
attribute [local go_sem] Oper.semAt_some

set_option maxRecDepth 100000 in
set_option maxHeartbeats 2000000 in
theorem spIsRightFor_c (xs : List St) (ys : List Mv) (v u : Value) (t : ByteArray) (ht : t.size ≤ 1048576) (w : World) (hx : RdS w v xs) (hy : RdM w u ys) (hzy : ∀ m ∈ ys, m.1.size ≤ 9223372036854775807 ∧ m.2.size ≤ 9223372036854775807) (hny : ys.length ≤ 1048576) :
    Calls Tryd.prog 24 #[v, u, .string t] w fun e w' => e = .returned (.bool (irfB xs ys t)) ∧ Below w.heap.size w w' := by
  have HX := Lib.hid (fun W (hb : Below w.heap.size w W) => hx.below hb)
  have HY := Lib.hid (fun W (hb : Below w.heap.size w W) => hy.below hb)
  have HSV := Lib.hid (spSequenceValid_c xs v w hx)
  have HMV := Lib.hid (fun W hW => spMovesValid_c ys u W hW hzy hny)
  have HWV := Lib.hid (fun W => spWantedValid_c t (by omega) W)
  rcases Bool.eq_false_or_eq_true (svalid xs) with h1 | h1
  · rw [h1] at HSV
    rcases Bool.eq_false_or_eq_true (mvalid ys) with h2 | h2
    · rw [h2] at HMV
      rcases Bool.eq_false_or_eq_true (wvB t) with h3 | h3
      · rw [h3] at HWV
        have hMV : MV ys := by simpa [mvalid] using h2
        have HRU := Lib.hid (fun W hW => l2Run_c xs (fun k hk => svalid_at h1 k hk) v nmT W hW)
        have HFR := Lib.hid (fun W => l2Fresh_c W)
        have HEX := Lib.hid (fun k hk => wv_extract h3 k hk)
        have HFA := Lib.hid (fun p hp hne => irf_false (xs := xs) (ys := ys) (t := t) (p := p) hp hne)
        have HTR := Lib.hid (fun h => irf_true (xs := xs) (ys := ys) (t := t) h1 h2 h3 h)
        have HCM := Lib.hid (fun p hp g => irf_cmp (ys := ys) hMV (p := p) hp g)
        have HVA := Lib.hid (fun f a h W => l2Value_c f a h W)
        have HSO := Lib.hid (fun a W hW => l1Source_c ys u a W hW)
        have HNC : Hid (∀ p, p < 9 → okC (nm p) = true) := fun p hp => by unfold okC; rw [(cidx_nm hp).1]; rfl
        have HCB : Hid (cellsB = stB nmT) := by show _ = _; rfl
        clear h1 h2 h3 hx hy hMV
        go_enter Tryd.func24, Tryd.ntmps24
        go_wp2_with fail
        refine HSV.out.mono ?_
        rintro e w1 ⟨rfl, hb1⟩
        have hs1 := hb1.size
        go_wp2_with fail
        refine (HMV.out _ (HY.out _ hb1)).mono ?_
        rintro e w2 ⟨rfl, hb2⟩
        have B2 := hb1.trans (hb2.mono hs1)
        have hs2 := B2.size
        clear hb1 hb2
        go_wp2_with (first | (go_at_call 26; refine (HWV.out _).mono ?_; rintro e w' ⟨rfl, rfl⟩) | (go_at_call 69; refine (HFR.out _).mono ?_; rintro e w' ⟨rfl, rfl⟩; refine held ?_))
        unfold Held
        rw [HCB.out]
        go_wp2_with fail
        refine (HRU.out _ (HX.out _ B2)).mono ?_
        rintro e w3 ⟨rfl, hb3⟩
        have B3 := B2.trans (hb3.mono hs2)
        have hs3 := B3.size
        clear hb3 B2
        generalize runS xs xs.length nmT = g at *
        go_wp2
        go_loopw [8, 27] (fun _ i wr => ∃ (k : Nat), k ≤ t.size ∧ i = .int .i64 k ∧ Hid (∀ j, j < k → ∀ p, (elN (wnN t.data.toList))[j]? = some p → g p = aoS (tabOf ys) nmT p) ∧ Below w.heap.size w wr) (fun _ i _ => t.size - (RowKit.intOf i).toNat)
        case atStart => exact ⟨0, by omega, rfl, fun j hj => absurd hj (Nat.not_lt_zero j), B3⟩
        case round =>
          clear B3
          obtain ⟨k, hk, rfl, hpr, hb⟩ := hrel
          have hbs := hb.size
          by_cases hlt : k < t.size
          · have i0 : (0 : Int) ≤ (k : Int) := by omega
            have i1 : (k : Int) < (t.size : Int) := by omega
            obtain ⟨p, hp9, hex, htb, hel⟩ := HEX.out k hlt
            have hcm := HCM.out p hp9 g
            have hva : ∀ x : Ext wr.heap.size wr, Calls Tryd.prog 70 #[.string (stB g), .string (nm p)] x.val fun e w' => e = .returned (.string ⟨#[rdS g (nm p)]⟩) ∧ x.val = w' := fun x => HVA.out g (nm p) (HNC.out p hp9) x.val
            have hso : ∀ x : Ext wr.heap.size wr, Calls Tryd.prog 71 #[u, .string (nm p)] x.val fun e w' => e = .returned (.string (srcM ys (nm p))) ∧ Below x.val.heap.size x.val w' := fun x => HSO.out (nm p) x.val (HY.out _ (hb.trans (x.property.mono hbs)))
            have hbb := bne_str (⟨#[rdS g (nm p)]⟩ : ByteArray) (srcM ys (nm p))
            have HMEM : Hid (p ∈ elN (wnN t.data.toList)) := List.mem_of_getElem? hel
            by_cases he : g p = aoS (tabOf ys) nmT p
            · have HP : Hid (∀ j, j < k + 1 → ∀ q, (elN (wnN t.data.toList))[j]? = some q → g q = aoS (tabOf ys) nmT q) := fun j hj q hq => by
                by_cases e : j = k
                · subst e; rw [hel] at hq; cases hq; exact he
                · exact hpr.out j (by omega) q hq
              have hbf : (!((⟨#[rdS g (nm p)]⟩ : ByteArray).toList == (srcM ys (nm p)).toList)) = false := by rw [hbb]; simpa using hcm.2 he
              clear hcm hbb he hel htb
              generalize srcM ys (nm p) = q1 at *
              generalize (⟨#[rdS g (nm p)]⟩ : ByteArray) = q2 at *
              generalize nm p = a at *
              go_wp2
              refine wp_region_ext wr.heap.size (by kernel_rfl) (by kernel_rfl) ?_
              go_big_quiet_step (fail)
              go_big_quiet_step (fail)
              go_big_quiet_step (fail)
              go_big_quiet_step (fail)
              go_big_quiet_step (fail)
              go_big_quiet_step (fail)
              go_big_quiet_step (exact ext_same _ (hva _))
              go_big_quiet_step (fail)
              go_big_quiet_step (fail)
              go_big_quiet_step (fail)
              go_big_quiet_step (fail)
              go_big_quiet_step (fail)
              go_big_quiet_step (fail)
              go_big_quiet_step (exact ext_call _ (Nat.le_refl _) (hso _))
              go_big_quiet_step (fail)
              refine wpQuiet_nil ?_
              intro w4 hw'
              obtain ⟨xw, hxw⟩ := hw'
              have hb4 : Below wr.heap.size wr w4 := by rw [hxw]; exact xw.property
              clear hxw xw hva hso
              have hb5 := hb.trans (hb4.mono hbs)
              clear hb hb4
              go_wp2
              go_roundw
              case rel => exact ⟨k + 1, by omega, by go_num, HP, hb5⟩
              case measure => simp [RowKit.intOf]; omega
            · have HR : Hid (irfB xs ys t = false) := HFA.out p HMEM.out he
              have hbf : (!((⟨#[rdS g (nm p)]⟩ : ByteArray).toList == (srcM ys (nm p)).toList)) = true := by rw [hbb]; simpa using fun e => he (hcm.1 e)
              clear hcm hbb he hel htb
              generalize srcM ys (nm p) = q1 at *
              generalize (⟨#[rdS g (nm p)]⟩ : ByteArray) = q2 at *
              generalize nm p = a at *
              go_wp2
              refine wp_region_ext wr.heap.size (by kernel_rfl) (by kernel_rfl) ?_
              go_big_quiet_step (fail)
              go_big_quiet_step (fail)
              go_big_quiet_step (fail)
              go_big_quiet_step (fail)
              go_big_quiet_step (fail)
              go_big_quiet_step (fail)
              go_big_quiet_step (exact ext_same _ (hva _))
              go_big_quiet_step (fail)
              go_big_quiet_step (fail)
              go_big_quiet_step (fail)
              go_big_quiet_step (fail)
              go_big_quiet_step (fail)
              go_big_quiet_step (fail)
              go_big_quiet_step (exact ext_call _ (Nat.le_refl _) (hso _))
              go_big_quiet_step (fail)
              refine wpQuiet_nil ?_
              intro w4 hw'
              obtain ⟨xw, hxw⟩ := hw'
              have hb4 : Below wr.heap.size wr w4 := by rw [hxw]; exact xw.property
              clear hxw xw hva hso
              have hb5 := hb.trans (hb4.mono hbs)
              clear hb hb4
              go_wp2
              go_ret
              exact ⟨by rw [HR.out]; rfl, hb5⟩
          · have HR : Hid (irfB xs ys t = true) := HTR.out (fun j hj p hp => hpr.out j (by omega) p hp)
            have i1 : ¬ (k : Int) < (t.size : Int) := by omega
            clear hk hlt hpr
            go_wp2
            go_ret
            exact ⟨by rw [HR.out]; rfl, hb⟩
      · rw [h3] at HWV
        have HR : Hid (irfB xs ys t = false) := irf_no (by rw [h3]; simp)
        clear h1 h2 h3 hx hy
        go_enter Tryd.func24, Tryd.ntmps24
        go_wp2_with fail
        refine HSV.out.mono ?_
        rintro e w1 ⟨rfl, hb1⟩
        have hs1 := hb1.size
        go_wp2_with fail
        refine (HMV.out _ (HY.out _ hb1)).mono ?_
        rintro e w2 ⟨rfl, hb2⟩
        have B2 := hb1.trans (hb2.mono hs1)
        clear hb1 hb2
        go_wp2_with (go_at_call 26; refine (HWV.out _).mono ?_; rintro e w' ⟨rfl, rfl⟩)
        go_ret
        exact ⟨by rw [HR.out]; rfl, B2⟩
    · rw [h2] at HMV
      have HR : Hid (irfB xs ys t = false) := irf_no (by rw [h2]; simp)
      clear h1 h2 hx hy
      go_enter Tryd.func24, Tryd.ntmps24
      go_wp2_with fail
      refine HSV.out.mono ?_
      rintro e w1 ⟨rfl, hb1⟩
      have hs1 := hb1.size
      go_wp2_with fail
      refine (HMV.out _ (HY.out _ hb1)).mono ?_
      rintro e w2 ⟨rfl, hb2⟩
      have B2 := hb1.trans (hb2.mono hs1)
      clear hb1 hb2
      go_wp2
      go_ret
      exact ⟨by rw [HR.out]; rfl, B2⟩
  · rw [h1] at HSV
    have HR : Hid (irfB xs ys t = false) := irf_no (by rw [h1]; rfl)
    clear h1 hx hy
    go_enter Tryd.func24, Tryd.ntmps24
    go_wp2_with fail
    refine HSV.out.mono ?_
    rintro e w1 ⟨rfl, hb1⟩
    go_wp2
    go_ret
    exact ⟨by rw [HR.out]; rfl, hb1⟩
end Go.Proofs.YtplapaojgcloaaaDoor
namespace Go.PM
open Go.RowKit
theorem yieldsIf_row {P : Program} {ops : Array Oper} {S : World → Prop} {op : Oper} {a : Act} (hw : Region.wanted op (yielded ops a.tmps) = true) (ty : TypeId) (x : Operand) (ho : op.op = .load ty x)
    (b : Nat) (t : TypeId) (cs : Array Value) (hx : a.eval x = .pointer (some ⟨b, 0, none⟩)) (hS : ∀ w, S w → At w b t cs)
    (k : Nat) (e : TypeId) (hu : P.underlying ty = some (.array k e)) (hi : (P.info? ty).map (·.size) = some cs.size) : YieldsIf P ops S op (.agg cs) a :=
  .inl ⟨hw, fun w hw' => by
    unfold execOp
    simp only [ho, hx, Instr.loadAt, Instr.sureAddr, Sem.run_bind, Sem.run_pure, Result.andThen_ok, run_loadVar_row w b t ty cs (0, 0) _ (hS w hw') hu rfl hi]⟩
end Go.PM
namespace Go.PE
open Go.PM Go.PD Go.RowKit
theorem srcT_okC {xs : List Mv} (h : MV xs) : ∀ p, p < 9 → okC (srcT (tabOf xs) p) = true := fun p hp => by
  rw [srcT_M h hp]
  have := srcM_isS h (isP_nm hp)
  unfold isS at this
  unfold okC
  rw [Bool.or_eq_true] at this ⊢
  rcases this with h1 | h1
  · exact .inl (isP_isC h1).1
  · exact .inr h1
end Go.PE
namespace Go.Proofs.YtplapaojgcloaaaDoor
open Go.RowKit Go.PM Go.PE
attribute [local go_sem] Oper.semAt_some

theorem wpIn_noP9 {F : Fence} {n : Nat} {P : Program} {c : Code} {K : Act → World → Prop} {Q : Exit → Act → World → Prop} {a : Act} {w : World} (h : c.wpIn F n P (Exit.then K (fun _ _ _ => False)) a w) : c.wpIn F n P (Exit.then K Q) a w :=
  Code.wpIn_mono (fun e a w h => by cases e <;> first | exact h | exact h.elim) h
theorem results_irf (W : World) (b1 : Nat) (v : Value) (h1 : At W b1 4 #[v]) (tmps : Array Value) (e1 : tmps.getD 6 undef = .pointer (some ⟨b1, 0, none⟩)) :
    (results Tryd.f22 tmps).run Tryd.prog W = .ok v W := by
  have q1 := h1.cell 0
  simp at q1
  have e1' : tmps[6]?.getD undef = .pointer (some ⟨b1, 0, none⟩) := by simpa using e1
  simp [results, Tryd.results22, go_sem, e1', q1]
set_option maxRecDepth 100000 in
set_option maxHeartbeats 2000000 in
theorem imIsRightFor_c (xs : List St) (ys : List Mv) (v u : Value) (t : ByteArray) (ht : t.size ≤ 1048576) (w : World) (hx : RdS w v xs) (hy : RdM w u ys) (hT : Tz w) :
    Calls Tryd.prog 22 #[v, u, .string t] w fun e w' => e = .returned (.bool (irfB xs ys t)) ∧ Below w.heap.size w w' := by
  have HX := Lib.hid (fun W (hb : Below w.heap.size w W) => hx.below hb)
  have HTZ := Lib.hid (fun W (hb : Below w.heap.size w W) => hT.below hb)
  have hB0 : Below w.heap.size w (w.alloc (.cells #[.bool false] 4)) := (Below.refl _ _).alloc (Nat.le_refl _) _
  have a0 : At (w.alloc (.cells #[.bool false] 4)) w.heap.size 4 #[.bool false] := At.new _ _ _
  have HTW := Lib.hid (tableAndWanted_c ys u t ht _ (hy.below hB0) (hT.below hB0))
  have HSV := Lib.hid (fun W hW => imSequenceValid_c xs v W hW)
  have HIF : Hid (irfB xs ys t = (svalid xs && ((mvalid ys && wvB t) && (elN (wnN t.data.toList)).all fun p => decide (runS xs xs.length nmT p = aoS (tabOf ys) nmT p)))) := by
    show _ = _; unfold irfB; rw [← Bool.and_assoc (mvalid ys)]
  have hs0 : w.heap.size ≤ (w.alloc (.cells #[.bool false] 4)).heap.size := hB0.size
  rcases Bool.eq_false_or_eq_true (mvalid ys && wvB t) with hv | hv
  · rw [hv] at HTW HIF
    have hMV : MV ys := by rw [Bool.and_eq_true] at hv; simpa [mvalid] using hv.1
    rcases Bool.eq_false_or_eq_true (svalid xs) with h1 | h1
    · rw [h1, Bool.true_and, Bool.true_and] at HIF
      rw [h1] at HSV
      have hlt := wnN_lt t.data.toList
      have HIO := Lib.hid (fun W hW => inOrder_c xs (fun k hk => svalid_at h1 k hk) v nmS W hW)
      have HAO := Lib.hid (fun W => atOnce_c (tabOf ys) nmS (srcT_okC hMV) W)
      have HP9 := Lib.hid (fun ps p h => pre_el9 hlt (ps := ps) (p := p) h)
      rw [tbF_yes hMV] at HTW
      change Hid (irfB xs ys t = (elN (wnN t.data.toList)).all fun p => decide (runS xs xs.length nmS p = aoS (tabOf ys) nmS p)) at HIF
      clear hv hMV h1 hx hy hT
      generalize runS xs xs.length nmS = g1 at *
      generalize aoS (tabOf ys) nmS = g2 at *
      generalize tabOf ys = f at *
      generalize wnN t.data.toList = n at *
      refine (callsIn_wide (n := 5)).1 ?_
      refine callsIn_of_wp_marks Tryd.func22 rfl trivial ?_ rfl
      simp only [Tryd.ntmps22, List.size_toArray, List.length_cons, List.length_nil, Nat.reduceAdd, Nat.reduceSub, Array.replicate_succ, Array.replicate_zero, List.push_toArray, List.append_toArray, List.nil_append, List.cons_append]
      gi_wp2_with fail
      refine ⟨trivial, callsIn_wide.2 (HTW.out.mono ?_)⟩
      rintro e w1 ⟨rfl, hb1⟩
      have a1 := a0.keep hb1
      have B1 := hB0.trans (hb1.mono hs0)
      have hs1 := B1.size
      clear a0 hb1 hB0 HTW
      obtain ⟨w2, hw2⟩ : ∃ w2 : World, w2 = w1.alloc (.cells (tabA f) 86) := ⟨_, rfl⟩
      have k2 : At w2 w1.heap.size 86 (tabC f) := by rw [hw2]; exact At.new w1 _ _
      have a2 : At w2 w.heap.size 4 #[.bool false] := by rw [hw2]; exact a1.alloc _
      have B2 : Below w.heap.size w w2 := by rw [hw2]; exact B1.alloc hs1 _
      have hs2 := B2.size
      clear a1
      gi_wp2_with fail
      rw [← hw2]
      refine ⟨trivial, callsIn_wide.2 ((HSV.out _ (HX.out _ B2)).mono ?_)⟩
      rintro e w3 ⟨rfl, hb3⟩
      have k3 := k2.keep hb3
      have a3 := a2.keep hb3
      have B3 := B2.trans (hb3.mono hs2)
      have hs3 := B3.size
      have hlt2 := k2.lt
      clear k2 a2 B2 hb3 hw2 HSV
      gi_wp2_with fail
      refine ⟨trivial, callsIn_wide.2 ((stateOfNames_c _).mono ?_)⟩
      rintro e w4 ⟨rfl, hb4⟩
      have k4 := k3.keep hb4
      have a4 := a3.keep hb4
      have B4 := B3.trans (hb4.mono hs3)
      have hs4 := B4.size
      have z4 : At (w4.alloc (.cells zSA 78)) w4.heap.size 78 zSA := At.new _ _ _
      have k4a := k4.alloc (.cells zSA 78)
      have a4a := a4.alloc (.cells zSA 78)
      have B4a := B4.alloc hs4 (.cells zSA 78)
      have hl4 := k4.lt
      have hl5 := a4.lt
      clear k3 a3 B3 hb4 k4 a4 B4
      gi_wp2_with (refine stIn_row rfl 78 (.tmp 10) (.tmp 28) rfl rfl w4.heap.size 78 zSA (stC nmS) z4 (by rfl) (by rfl) (by kernel_rfl) rfl (stC_one _) ?_; intro W5 n5 g5; refine held ?_)
      unfold Held
      have k5 := k4a.grown g5 (by simp; omega)
      have a5 := a4a.grown g5 (by simp; omega)
      have B5 := B4a.trans (below_grown g5 B4a.size (fun g hg => by cases hg; exact hs4))
      have hl6 := n5.lt
      have hl7 := k5.lt
      have hl8 := a5.lt
      have hs5 := B5.size
      clear z4 k4a a4a B4a g5
      gi_wp2
      rename_i K2 hK2
      obtain ⟨S, hSd⟩ : ∃ S : World → Prop, S = fun W => At W w4.heap.size 78 (stC nmS) ∧ At W w1.heap.size 86 (tabC f) ∧ At W w.heap.size 4 #[.bool false] ∧ Below w.heap.size w W ∧ W5.heap.size ≤ W.heap.size := ⟨_, rfl⟩
      have HSN : ∀ W, S W → At W w4.heap.size 78 (stC nmS) := fun W h => by rw [hSd] at h; exact h.1
      have HST : ∀ W, S W → At W w1.heap.size 86 (tabC f) := fun W h => by rw [hSd] at h; exact h.2.1
      have HSA : ∀ W, S W → At W w.heap.size 4 #[.bool false] := fun W h => by rw [hSd] at h; exact h.2.2.1
      have HSB : ∀ W, S W → Below w.heap.size w W := fun W h => by rw [hSd] at h; exact h.2.2.2.1
      have HSL : ∀ W, S W → W5.heap.size ≤ W.heap.size := fun W h => by rw [hSd] at h; exact h.2.2.2.2
      have HSX : ∀ W W', S W → Below W.heap.size W W' → S W' := fun W W' h hb => by
        rw [hSd] at h ⊢
        exact ⟨h.1.keep hb, h.2.1.keep hb, h.2.2.1.keep hb, h.2.2.2.1.trans (hb.mono h.2.2.2.1.size), Nat.le_trans h.2.2.2.2 hb.size⟩
      have HSG : ∀ W W' b, S W → W.grownBy W' (some b) → W5.heap.size ≤ b → S W' := fun W W' b h hg hb => by
        rw [hSd] at h ⊢
        exact ⟨h.1.grown hg (fun e => by cases e; omega), h.2.1.grown hg (fun e => by cases e; omega), h.2.2.1.grown hg (fun e => by cases e; omega), h.2.2.2.1.trans (below_grown hg h.2.2.2.1.size (fun g e => by cases e; omega)), Nat.le_trans h.2.2.2.2 hg.size⟩
      have hs5' : S W5 := by rw [hSd]; exact ⟨n5, k5, a5, B5, Nat.le_refl _⟩
      clear hSd n5 k5 a5 B5
      have FIN : ∀ (b1 b2 : Nat) (W : World), S W → At W b1 78 (stC g1) → At W b2 78 (stC g2) → K2 { tmps := #[v, u, .string t, undef, undef, undef, .pointer (some ⟨w.heap.size, 0, none⟩), .pointer (some ⟨w1.heap.size, 0, none⟩), .int .u64 n, .bool true, .pointer (some ⟨w4.heap.size, 0, none⟩), .pointer (some ⟨b1, 0, none⟩), .pointer (some ⟨b2, 0, none⟩), undef, .tuple #[tabX f, .int .u64 n, .bool true], u, .string t, .tuple #[tabX f, .int .u64 n, .bool true], tabX f, .int .u64 n, .bool true, .bool true, .bool false, .bool false, v, .bool true, .bool false, .bool false, stV nmS, stV nmS, v, stV g1, stV nmS, tabV f, stV g2, undef, undef, undef, undef, undef, undef, undef, undef, undef, undef], defers := [] } W := by
        intro b1 b2 W hs p1 p2
        have hzW := (HSA _ hs).lt
        refine hK2 _ _ ?_
        gi_wp2
        refine range_law3s (F := Fence.wide) (Pr := fun W => Tz W) (gf := 65) (lf := #[.int .u64 (n : Int)]) (lb := #[]) rfl (by decide) rfl trivial (fun args w => rfl) (encs := fun p : Nat => #[.int .i64 p]) (xs := elN n) (κ := 0)
          (cells_iter n (by omega) 4 (by decide)) (fun _ => rfl)
          (fun pre W => At W w.heap.size 4 #[.bool false] ∧ At W b1 78 (stC g1) ∧ At W (b2) 78 (stC g2) ∧ Hid (∀ p ∈ pre, g1 p = g2 p) ∧ Below w.heap.size w W)
          (fun c pre W => c = .ret ∧ (∃ p ∈ pre, g1 p ≠ g2 p) ∧ At W w.heap.size 4 #[.bool false] ∧ Below w.heap.size w W) ?pr ?own ?ownx ?start ?a1 ?assign ?body ?done ?stop
        case pr => exact fun pre A h => HTZ.out A h.2.2.2.2
        case own =>
          rintro s A A' row ⟨k1, k2, k3, k4, k5⟩ hg hr
          exact ⟨k1.turn hg (fun r e => (hr r e).2), k2.turn hg (fun r e => (hr r e).2), k3.turn hg (fun r e => (hr r e).2), k4, k5.trans (below_grown hg k5.size (fun g e => by have := (hr g e).1; omega))⟩
        case ownx =>
          rintro c s A A' row ⟨k1, k2, k3, k5⟩ hg hr
          exact ⟨k1, k2, k3.turn hg (fun r e => (hr r e).2), k5.trans (below_grown hg k5.size (fun g e => by have := (hr g e).1; omega))⟩
        case start => exact ⟨HSA _ hs, p1, p2, (fun p hp => by cases hp), HSB _ hs⟩
        case assign =>
          intro l p W Kc hK
          gi_wp2
          exact hK
        case body =>
          clear p1 p2 hs
          rintro l pre p A ⟨k1, k2, k3, k4, k5⟩ hp hsz
          have hp9 := HP9.out _ _ hp
          have i0 : (0 : Int) ≤ (p : Int) := by omega
          have i1 : (p : Int) < 11 := by omega
          have c1 : A.drew.cell? ⟨b1, p, none⟩ = some (.int .u8 (g1 p).toNat) := (k2.cell p).trans (stC_at g1 p (by omega))
          have c2 : A.drew.cell? ⟨b2, p, none⟩ = some (.int .u8 (g2 p).toNat) := (k3.cell p).trans (stC_at g2 p (by omega))
          have hk5 := k5.size
          by_cases he : g1 p = g2 p
          · have HI : Hid (∀ q ∈ pre ++ [p], g1 q = g2 q) := fun q hq => by
              rcases List.mem_append.1 hq with h | h
              · exact k4.out q h
              · rw [List.mem_singleton.1 h]; exact he
            have t1 : ((((g1 p).toNat : Nat) : Int) == ((g2 p).toNat : Nat)) = true := by rw [he]; simp
            clear he hp
            generalize ((g1 p).toNat : Int) = v1 at *
            generalize ((g2 p).toNat : Int) = v2 at *
            gi_wp2
            refine region_quiet_inRound (F := Fence.wide) (C := fun w' => w' = A.drew) rfl (by kernel_rfl) (by kernel_rfl) (by kernel_rfl) rfl ?_
            simp only
            gi_big_quiet_step (fail)
            gi_big_quiet_step (fail)
            gi_big_quiet_step (fail)
            gi_big_quiet_step (fail)
            gi_big_quiet_step (fail)
            gi_big_quiet_step (fail)
            gi_big_quiet_step (fail)
            refine wpQuietIn_nil ?_
            intro w' hw'
            subst hw'
            gi_wp2
            exact ⟨(KeepsNew.drew A).from, KeepsIn.zero (Nat.le_refl _), k1, k2, k3, HI, k5.drew⟩
          · have HX2 : Hid (∃ q ∈ pre ++ [p], g1 q ≠ g2 q) := ⟨p, List.mem_append_right _ (List.mem_singleton_self p), he⟩
            have t1 : ((((g1 p).toNat : Nat) : Int) == ((g2 p).toNat : Nat)) = false := by
              have : (g1 p).toNat ≠ (g2 p).toNat := fun e => he (UInt8.toNat.inj e)
              simp; omega
            have c0 : A.drew.cell? ⟨w.heap.size, 0, none⟩ = some (.bool false) := k1.cell 0
            have f0 : A.drew.frozen? ⟨w.heap.size, 0, none⟩ = false := k1.frozen 0
            have l0 := k1.lt
            have m1 : At (A.drew.setCell ⟨w.heap.size, 0, none⟩ (.bool false)) w.heap.size 4 #[.bool false] := At.set (w := A.drew) k1 0 _
            clear he hp
            generalize ((g1 p).toNat : Int) = v1 at *
            generalize ((g2 p).toNat : Int) = v2 at *
            gi_wp2
            refine region_quiet_inRound (F := Fence.wide) (C := fun w' => w' = A.drew) rfl (by kernel_rfl) (by kernel_rfl) (by kernel_rfl) rfl ?_
            simp only
            gi_big_quiet_step (fail)
            gi_big_quiet_step (fail)
            gi_big_quiet_step (fail)
            gi_big_quiet_step (fail)
            gi_big_quiet_step (fail)
            gi_big_quiet_step (fail)
            gi_big_quiet_step (fail)
            refine wpQuietIn_nil ?_
            intro w' hw'
            subst hw'
            gi_wp2
            exact ⟨(KeepsNew.drew A).from.trans ((KeepsOthers.setCell _ _ _).from _), rfl, HX2.out, m1, k5.drew.setCell (Nat.le_refl _) _⟩
        case done =>
          intro D W hD hI hd
          obtain ⟨k1, k2, k3, k4, k5⟩ := hI
          have HA : Hid (irfB xs ys t = true) := by
            show _ = _; rw [HIF.out, List.all_eq_true]; intro p hp; exact decide_eq_true (k4.out p hp)
          have c0 := k1.cell 0
          have f0 := k1.frozen 0
          have l0 := k1.lt
          have m1 := k1.set 0 (.bool true)
          have d6 : (W.setCell ⟨w.heap.size, 0, none⟩ (.bool true)).heap[D]? = some (.deferred (some [])) := (heap_setCell_other _ _ _ _ (by simp; omega)).trans hd
          have bel := k5.setCell (p := ⟨w.heap.size, 0, none⟩) (Nat.le_refl _) (.bool true)
          clear k1 k2 k3
          gi_wp2
          refine ⟨by simp, .inl ⟨D, _, rfl, run_takeDeferred d6, ?_⟩⟩
          exact ⟨_, results_irf _ w.heap.size (.bool true) ((World.putObj_heap_other (by omega)).trans m1) _ rfl, by rw [HA.out], bel.trans ⟨rfl, rfl, rfl, by simp [World.putObj], fun k hk => World.putObj_heap_other (by omega)⟩⟩
        case stop =>
          rintro D c pre W hD hp ⟨rfl, ⟨q, hq1, hq2⟩, k1, k5⟩ hd
          have HA : Hid (irfB xs ys t = false) := by
            show _ = _; rw [HIF.out, List.all_eq_false]; exact ⟨q, hp.subset hq1, by simpa using hq2⟩
          gi_wp2
          refine ⟨by simp, .inl ⟨D, _, rfl, run_takeDeferred hd, ?_⟩⟩
          exact ⟨_, results_irf _ w.heap.size (.bool false) ((World.putObj_heap_other (by have := k1.lt; omega)).trans k1) _ rfl, by rw [HA.out], k5.trans ⟨rfl, rfl, rfl, by simp [World.putObj], fun k hk => World.putObj_heap_other (by have := k5.size; omega)⟩⟩

      clear hK2
      refine wpIn_noP9 ?_
      refine wpIn_wide.2 ?_
      have sD : S W5.drew := HSX _ _ hs5' ((Below.refl _ _).drew)
      refine wp_region_held_drew (S := S) (by kernel_rfl) sD (fun hHeld => ?_)
      refine wpAnyH_take (i := 0) (oi := _) (v := .agg (stC nmS)) rfl (by kernel_rfl) (by kernel_rfl) (by kernel_rfl) (fun _ _ _ h => h) (yieldsIf_row rfl 78 (.tmp 10) rfl w4.heap.size 78 (stC nmS) (by rfl) (fun _ h => HSN _ h) 11 5 Tryd.underlying78 (by kernel_rfl)) hHeld ?_
      simp only [Act.put, List.getElem_toArray, List.getElem_cons_zero, List.setIfInBounds_toArray, List.set_cons_succ, List.set_cons_zero]
      refine wpAnyH_take (i := 1) (oi := _) (v := ?_) rfl (by kernel_rfl) (by kernel_rfl) (by kernel_rfl) (fun _ _ _ h => h) (Or.inl ⟨by rfl, by intro w0 _; go_simp; rfl⟩) hHeld ?_
      simp only [Act.put, List.getElem_toArray, List.getElem_cons_zero, List.getElem_cons_succ, List.setIfInBounds_toArray, List.set_cons_succ, List.set_cons_zero]
      refine wpAnyH_take (i := 3) (oi := _) (v := .agg (stC nmS)) rfl (by kernel_rfl) (by kernel_rfl) (by kernel_rfl) (fun _ _ _ h => h) (yieldsIf_row rfl 78 (.tmp 10) rfl w4.heap.size 78 (stC nmS) (by rfl) (fun _ h => HSN _ h) 11 5 Tryd.underlying78 (by kernel_rfl)) hHeld ?_
      simp only [Act.put, List.getElem_toArray, List.getElem_cons_zero, List.getElem_cons_succ, List.setIfInBounds_toArray, List.set_cons_succ, List.set_cons_zero]
      refine wpAnyH_take (i := 4) (oi := _) (v := .agg (tabC f)) rfl (by kernel_rfl) (by kernel_rfl) (by kernel_rfl) (fun _ _ _ h => h) (yieldsIf_row rfl 86 (.tmp 7) rfl w1.heap.size 86 (tabC f) (by rfl) (fun _ h => HST _ h) 9 9 Tryd.underlying86 (by kernel_rfl)) hHeld ?_
      simp only [Act.put, List.getElem_toArray, List.getElem_cons_zero, List.getElem_cons_succ, List.setIfInBounds_toArray, List.set_cons_succ, List.set_cons_zero]
      obtain ⟨WD, hWD⟩ : ∃ WD : World, WD = W5.drew := ⟨_, rfl⟩
      rw [← hWD] at sD ⊢
      clear hHeld hWD
--@ORDERS
      refine wpAnyH_ready (rs := [2, 6, 7]) (by kernel_rfl) (by simp) ?_
      refine AllReadyH.cons rfl (fun K hK => ?_) (AllReadyH.cons rfl (fun K hK => ?_) (AllReadyH.cons rfl (fun K hK => ?_) (AllReadyH.nil)))
      · go_simp
        go_at_call 58
        refine (HIO.out _ (HX.out _ (HSB _ sD))).mono ?_
        rintro e V1 ⟨rfl, hbV1⟩
        have sV1 := HSX _ _ sD hbV1
        refine hK.out _ _ sV1 (fun hHeldV1 => ?_)
        clear hK K
        try simp only [Act.put, List.getElem_toArray, List.getElem_cons_zero, List.getElem_cons_succ, List.setIfInBounds_toArray, List.set_cons_succ, List.set_cons_zero]
        refine wpAnyH_ready (rs := [5, 6, 7]) (by kernel_rfl) (by simp) ?_
        refine AllReadyH.cons rfl (fun K hK => ?_) (AllReadyH.cons rfl (fun K hK => ?_) (AllReadyH.cons rfl (fun K hK => ?_) (AllReadyH.nil)))
        · go_simp
          go_at_call 64
          refine (HAO.out _).mono ?_
          rintro e V2 ⟨rfl, hbV2⟩
          have sV2 := HSX _ _ sV1 hbV2
          refine hK.out _ _ sV2 (fun hHeldV2 => ?_)
          clear hK K
          try simp only [Act.put, List.getElem_toArray, List.getElem_cons_zero, List.getElem_cons_succ, List.setIfInBounds_toArray, List.set_cons_succ, List.set_cons_zero]
          refine wpAnyH_ready (rs := [6, 7]) (by kernel_rfl) (by simp) ?_
          refine AllReadyH.cons rfl (fun K hK => ?_) (AllReadyH.cons rfl (fun K hK => ?_) (AllReadyH.nil))
          · go_simp
            have hbV3 : Below V2.heap.size V2 (V2.alloc (.cells zSA 78)) := (Below.refl _ _).alloc (Nat.le_refl _) _
            have sV3 := HSX _ _ sV2 hbV3
            have qV3 : At (V2.alloc (.cells zSA 78)) V2.heap.size 78 zSA := At.new _ _ _
            have lV3 := HSL _ sV2
            obtain ⟨V3, hvV3⟩ : ∃ V : World, V = V2.alloc (.cells zSA 78) := ⟨_, rfl⟩
            rw [← hvV3] at sV3 qV3 hbV3
            have e6V3 := qV3.lt
            have hzV3 := hbV3.size
            rw [← hvV3]
            clear hvV3
            refine hK.out _ _ sV3 (fun hHeldV3 => ?_)
            clear hK K
            try simp only [Act.put, List.getElem_toArray, List.getElem_cons_zero, List.getElem_cons_succ, List.setIfInBounds_toArray, List.set_cons_succ, List.set_cons_zero]
            refine wpAnyH_ready (rs := [7]) (by kernel_rfl) (by simp) ?_
            refine AllReadyH.cons rfl (fun K hK => ?_) (AllReadyH.nil)
            · go_simp
              have hbV4 : Below V3.heap.size V3 (V3.alloc (.cells zSA 78)) := (Below.refl _ _).alloc (Nat.le_refl _) _
              have sV4 := HSX _ _ sV3 hbV4
              have qV4 : At (V3.alloc (.cells zSA 78)) V3.heap.size 78 zSA := At.new _ _ _
              have lV4 := HSL _ sV3
              have p6V4 := qV3.keep hbV4
              obtain ⟨V4, hvV4⟩ : ∃ V : World, V = V3.alloc (.cells zSA 78) := ⟨_, rfl⟩
              rw [← hvV4] at sV4 qV4 hbV4 p6V4
              have e6V4 := p6V4.lt
              have e7V4 := qV4.lt
              have hzV4 := hbV4.size
              rw [← hvV4]
              clear hvV4
              refine hK.out _ _ sV4 (fun hHeldV4 => ?_)
              clear hK K
              try simp only [Act.put, List.getElem_toArray, List.getElem_cons_zero, List.getElem_cons_succ, List.setIfInBounds_toArray, List.set_cons_succ, List.set_cons_zero]
              have hne : V2.heap.size ≠ V3.heap.size := by omega
              refine wpAnyH_ready (rs := [8]) (by kernel_rfl) (by simp) ?_
              refine AllReadyH.cons rfl (fun K hK => ?_) AllReadyH.nil
              rw [if_pos (by rfl)]
              refine wp_store_row 78 (.tmp 11) (.tmp 31) rfl V2.heap.size (stC g1) (by rfl) (by rfl) 78 zSA p6V4 (by kernel_rfl) rfl (stC_one _) ?_
              have gA := grown_setRow V4 V2.heap.size (stC g1)
              have pA := At.setRow p6V4 (stC g1)
              have qA := qV4.grown gA (fun e => hne (Option.some.inj e).symm)
              have sA := HSG _ _ _ sV4 gA lV3
              refine hK.out _ _ sA (fun hHeldA => ?_)
              clear hK K
              try simp only [Act.put, List.getElem_toArray, List.getElem_cons_zero, List.getElem_cons_succ]
              generalize World.setRow V4 V2.heap.size (stC g1) = WA at *
              refine wpAnyH_ready (rs := [9]) (by kernel_rfl) (by simp) ?_
              refine AllReadyH.cons rfl (fun K hK => ?_) AllReadyH.nil
              rw [if_pos (by rfl)]
              refine wp_store_row 78 (.tmp 12) (.tmp 34) rfl V3.heap.size (stC g2) (by rfl) (by rfl) 78 zSA qA (by kernel_rfl) rfl (stC_one _) ?_
              have gB := grown_setRow WA V3.heap.size (stC g2)
              have qB := At.setRow qA (stC g2)
              have pB := pA.grown gB (fun e => hne (Option.some.inj e))
              have sB := HSG _ _ _ sA gB lV4
              refine hK.out _ _ sB (fun hHeldB => ?_)
              clear hK K
              try simp only [Act.put, List.getElem_toArray, List.getElem_cons_zero, List.getElem_cons_succ]
              generalize World.setRow WA V3.heap.size (stC g2) = WB at *
              refine wpAnyH_done (by kernel_rfl) ?_ _
              exact FIN _ _ _ sB pB qB
          · go_simp
            have hbV5 : Below V2.heap.size V2 (V2.alloc (.cells zSA 78)) := (Below.refl _ _).alloc (Nat.le_refl _) _
            have sV5 := HSX _ _ sV2 hbV5
            have qV5 : At (V2.alloc (.cells zSA 78)) V2.heap.size 78 zSA := At.new _ _ _
            have lV5 := HSL _ sV2
            obtain ⟨V5, hvV5⟩ : ∃ V : World, V = V2.alloc (.cells zSA 78) := ⟨_, rfl⟩
            rw [← hvV5] at sV5 qV5 hbV5
            have e7V5 := qV5.lt
            have hzV5 := hbV5.size
            rw [← hvV5]
            clear hvV5
            refine hK.out _ _ sV5 (fun hHeldV5 => ?_)
            clear hK K
            try simp only [Act.put, List.getElem_toArray, List.getElem_cons_zero, List.getElem_cons_succ, List.setIfInBounds_toArray, List.set_cons_succ, List.set_cons_zero]
            refine wpAnyH_ready (rs := [6]) (by kernel_rfl) (by simp) ?_
            refine AllReadyH.cons rfl (fun K hK => ?_) (AllReadyH.nil)
            · go_simp
              have hbV6 : Below V5.heap.size V5 (V5.alloc (.cells zSA 78)) := (Below.refl _ _).alloc (Nat.le_refl _) _
              have sV6 := HSX _ _ sV5 hbV6
              have qV6 : At (V5.alloc (.cells zSA 78)) V5.heap.size 78 zSA := At.new _ _ _
              have lV6 := HSL _ sV5
              have p7V6 := qV5.keep hbV6
              obtain ⟨V6, hvV6⟩ : ∃ V : World, V = V5.alloc (.cells zSA 78) := ⟨_, rfl⟩
              rw [← hvV6] at sV6 qV6 hbV6 p7V6
              have e7V6 := p7V6.lt
              have e6V6 := qV6.lt
              have hzV6 := hbV6.size
              rw [← hvV6]
              clear hvV6
              refine hK.out _ _ sV6 (fun hHeldV6 => ?_)
              clear hK K
              try simp only [Act.put, List.getElem_toArray, List.getElem_cons_zero, List.getElem_cons_succ, List.setIfInBounds_toArray, List.set_cons_succ, List.set_cons_zero]
              have hne : V5.heap.size ≠ V2.heap.size := by omega
              refine wpAnyH_ready (rs := [8]) (by kernel_rfl) (by simp) ?_
              refine AllReadyH.cons rfl (fun K hK => ?_) AllReadyH.nil
              rw [if_pos (by rfl)]
              refine wp_store_row 78 (.tmp 11) (.tmp 31) rfl V5.heap.size (stC g1) (by rfl) (by rfl) 78 zSA qV6 (by kernel_rfl) rfl (stC_one _) ?_
              have gA := grown_setRow V6 V5.heap.size (stC g1)
              have pA := At.setRow qV6 (stC g1)
              have qA := p7V6.grown gA (fun e => hne (Option.some.inj e).symm)
              have sA := HSG _ _ _ sV6 gA lV6
              refine hK.out _ _ sA (fun hHeldA => ?_)
              clear hK K
              try simp only [Act.put, List.getElem_toArray, List.getElem_cons_zero, List.getElem_cons_succ]
              generalize World.setRow V6 V5.heap.size (stC g1) = WA at *
              refine wpAnyH_ready (rs := [9]) (by kernel_rfl) (by simp) ?_
              refine AllReadyH.cons rfl (fun K hK => ?_) AllReadyH.nil
              rw [if_pos (by rfl)]
              refine wp_store_row 78 (.tmp 12) (.tmp 34) rfl V2.heap.size (stC g2) (by rfl) (by rfl) 78 zSA qA (by kernel_rfl) rfl (stC_one _) ?_
              have gB := grown_setRow WA V2.heap.size (stC g2)
              have qB := At.setRow qA (stC g2)
              have pB := pA.grown gB (fun e => hne (Option.some.inj e))
              have sB := HSG _ _ _ sA gB lV5
              refine hK.out _ _ sB (fun hHeldB => ?_)
              clear hK K
              try simp only [Act.put, List.getElem_toArray, List.getElem_cons_zero, List.getElem_cons_succ]
              generalize World.setRow WA V2.heap.size (stC g2) = WB at *
              refine wpAnyH_done (by kernel_rfl) ?_ _
              exact FIN _ _ _ sB pB qB
        · go_simp
          have hbV7 : Below V1.heap.size V1 (V1.alloc (.cells zSA 78)) := (Below.refl _ _).alloc (Nat.le_refl _) _
          have sV7 := HSX _ _ sV1 hbV7
          have qV7 : At (V1.alloc (.cells zSA 78)) V1.heap.size 78 zSA := At.new _ _ _
          have lV7 := HSL _ sV1
          obtain ⟨V7, hvV7⟩ : ∃ V : World, V = V1.alloc (.cells zSA 78) := ⟨_, rfl⟩
          rw [← hvV7] at sV7 qV7 hbV7
          have e6V7 := qV7.lt
          have hzV7 := hbV7.size
          rw [← hvV7]
          clear hvV7
          refine hK.out _ _ sV7 (fun hHeldV7 => ?_)
          clear hK K
          try simp only [Act.put, List.getElem_toArray, List.getElem_cons_zero, List.getElem_cons_succ, List.setIfInBounds_toArray, List.set_cons_succ, List.set_cons_zero]
          refine wpAnyH_ready (rs := [5, 7]) (by kernel_rfl) (by simp) ?_
          refine AllReadyH.cons rfl (fun K hK => ?_) (AllReadyH.cons rfl (fun K hK => ?_) (AllReadyH.nil))
          · go_simp
            go_at_call 64
            refine (HAO.out _).mono ?_
            rintro e V8 ⟨rfl, hbV8⟩
            have sV8 := HSX _ _ sV7 hbV8
            have p6V8 := qV7.keep hbV8
            have e6V8 := p6V8.lt
            refine hK.out _ _ sV8 (fun hHeldV8 => ?_)
            clear hK K
            try simp only [Act.put, List.getElem_toArray, List.getElem_cons_zero, List.getElem_cons_succ, List.setIfInBounds_toArray, List.set_cons_succ, List.set_cons_zero]
            refine wpAnyH_ready (rs := [7]) (by kernel_rfl) (by simp) ?_
            refine AllReadyH.cons rfl (fun K hK => ?_) (AllReadyH.nil)
            · go_simp
              have hbV9 : Below V8.heap.size V8 (V8.alloc (.cells zSA 78)) := (Below.refl _ _).alloc (Nat.le_refl _) _
              have sV9 := HSX _ _ sV8 hbV9
              have qV9 : At (V8.alloc (.cells zSA 78)) V8.heap.size 78 zSA := At.new _ _ _
              have lV9 := HSL _ sV8
              have p6V9 := p6V8.keep hbV9
              obtain ⟨V9, hvV9⟩ : ∃ V : World, V = V8.alloc (.cells zSA 78) := ⟨_, rfl⟩
              rw [← hvV9] at sV9 qV9 hbV9 p6V9
              have e6V9 := p6V9.lt
              have e7V9 := qV9.lt
              have hzV9 := hbV9.size
              rw [← hvV9]
              clear hvV9
              refine hK.out _ _ sV9 (fun hHeldV9 => ?_)
              clear hK K
              try simp only [Act.put, List.getElem_toArray, List.getElem_cons_zero, List.getElem_cons_succ, List.setIfInBounds_toArray, List.set_cons_succ, List.set_cons_zero]
              have hne : V1.heap.size ≠ V8.heap.size := by omega
              refine wpAnyH_ready (rs := [8]) (by kernel_rfl) (by simp) ?_
              refine AllReadyH.cons rfl (fun K hK => ?_) AllReadyH.nil
              rw [if_pos (by rfl)]
              refine wp_store_row 78 (.tmp 11) (.tmp 31) rfl V1.heap.size (stC g1) (by rfl) (by rfl) 78 zSA p6V9 (by kernel_rfl) rfl (stC_one _) ?_
              have gA := grown_setRow V9 V1.heap.size (stC g1)
              have pA := At.setRow p6V9 (stC g1)
              have qA := qV9.grown gA (fun e => hne (Option.some.inj e).symm)
              have sA := HSG _ _ _ sV9 gA lV7
              refine hK.out _ _ sA (fun hHeldA => ?_)
              clear hK K
              try simp only [Act.put, List.getElem_toArray, List.getElem_cons_zero, List.getElem_cons_succ]
              generalize World.setRow V9 V1.heap.size (stC g1) = WA at *
              refine wpAnyH_ready (rs := [9]) (by kernel_rfl) (by simp) ?_
              refine AllReadyH.cons rfl (fun K hK => ?_) AllReadyH.nil
              rw [if_pos (by rfl)]
              refine wp_store_row 78 (.tmp 12) (.tmp 34) rfl V8.heap.size (stC g2) (by rfl) (by rfl) 78 zSA qA (by kernel_rfl) rfl (stC_one _) ?_
              have gB := grown_setRow WA V8.heap.size (stC g2)
              have qB := At.setRow qA (stC g2)
              have pB := pA.grown gB (fun e => hne (Option.some.inj e))
              have sB := HSG _ _ _ sA gB lV9
              refine hK.out _ _ sB (fun hHeldB => ?_)
              clear hK K
              try simp only [Act.put, List.getElem_toArray, List.getElem_cons_zero, List.getElem_cons_succ]
              generalize World.setRow WA V8.heap.size (stC g2) = WB at *
              refine wpAnyH_done (by kernel_rfl) ?_ _
              exact FIN _ _ _ sB pB qB
          · go_simp
            have hbV10 : Below V7.heap.size V7 (V7.alloc (.cells zSA 78)) := (Below.refl _ _).alloc (Nat.le_refl _) _
            have sV10 := HSX _ _ sV7 hbV10
            have qV10 : At (V7.alloc (.cells zSA 78)) V7.heap.size 78 zSA := At.new _ _ _
            have lV10 := HSL _ sV7
            have p6V10 := qV7.keep hbV10
            obtain ⟨V10, hvV10⟩ : ∃ V : World, V = V7.alloc (.cells zSA 78) := ⟨_, rfl⟩
            rw [← hvV10] at sV10 qV10 hbV10 p6V10
            have e6V10 := p6V10.lt
            have e7V10 := qV10.lt
            have hzV10 := hbV10.size
            rw [← hvV10]
            clear hvV10
            refine hK.out _ _ sV10 (fun hHeldV10 => ?_)
            clear hK K
            try simp only [Act.put, List.getElem_toArray, List.getElem_cons_zero, List.getElem_cons_succ, List.setIfInBounds_toArray, List.set_cons_succ, List.set_cons_zero]
            refine wpAnyH_ready (rs := [5]) (by kernel_rfl) (by simp) ?_
            refine AllReadyH.cons rfl (fun K hK => ?_) (AllReadyH.nil)
            · go_simp
              go_at_call 64
              refine (HAO.out _).mono ?_
              rintro e V11 ⟨rfl, hbV11⟩
              have sV11 := HSX _ _ sV10 hbV11
              have p6V11 := p6V10.keep hbV11
              have e6V11 := p6V11.lt
              have p7V11 := qV10.keep hbV11
              have e7V11 := p7V11.lt
              refine hK.out _ _ sV11 (fun hHeldV11 => ?_)
              clear hK K
              try simp only [Act.put, List.getElem_toArray, List.getElem_cons_zero, List.getElem_cons_succ, List.setIfInBounds_toArray, List.set_cons_succ, List.set_cons_zero]
              have hne : V1.heap.size ≠ V7.heap.size := by omega
              refine wpAnyH_ready (rs := [8]) (by kernel_rfl) (by simp) ?_
              refine AllReadyH.cons rfl (fun K hK => ?_) AllReadyH.nil
              rw [if_pos (by rfl)]
              refine wp_store_row 78 (.tmp 11) (.tmp 31) rfl V1.heap.size (stC g1) (by rfl) (by rfl) 78 zSA p6V11 (by kernel_rfl) rfl (stC_one _) ?_
              have gA := grown_setRow V11 V1.heap.size (stC g1)
              have pA := At.setRow p6V11 (stC g1)
              have qA := p7V11.grown gA (fun e => hne (Option.some.inj e).symm)
              have sA := HSG _ _ _ sV11 gA lV7
              refine hK.out _ _ sA (fun hHeldA => ?_)
              clear hK K
              try simp only [Act.put, List.getElem_toArray, List.getElem_cons_zero, List.getElem_cons_succ]
              generalize World.setRow V11 V1.heap.size (stC g1) = WA at *
              refine wpAnyH_ready (rs := [9]) (by kernel_rfl) (by simp) ?_
              refine AllReadyH.cons rfl (fun K hK => ?_) AllReadyH.nil
              rw [if_pos (by rfl)]
              refine wp_store_row 78 (.tmp 12) (.tmp 34) rfl V7.heap.size (stC g2) (by rfl) (by rfl) 78 zSA qA (by kernel_rfl) rfl (stC_one _) ?_
              have gB := grown_setRow WA V7.heap.size (stC g2)
              have qB := At.setRow qA (stC g2)
              have pB := pA.grown gB (fun e => hne (Option.some.inj e))
              have sB := HSG _ _ _ sA gB lV10
              refine hK.out _ _ sB (fun hHeldB => ?_)
              clear hK K
              try simp only [Act.put, List.getElem_toArray, List.getElem_cons_zero, List.getElem_cons_succ]
              generalize World.setRow WA V7.heap.size (stC g2) = WB at *
              refine wpAnyH_done (by kernel_rfl) ?_ _
              exact FIN _ _ _ sB pB qB
        · go_simp
          have hbV12 : Below V1.heap.size V1 (V1.alloc (.cells zSA 78)) := (Below.refl _ _).alloc (Nat.le_refl _) _
          have sV12 := HSX _ _ sV1 hbV12
          have qV12 : At (V1.alloc (.cells zSA 78)) V1.heap.size 78 zSA := At.new _ _ _
          have lV12 := HSL _ sV1
          obtain ⟨V12, hvV12⟩ : ∃ V : World, V = V1.alloc (.cells zSA 78) := ⟨_, rfl⟩
          rw [← hvV12] at sV12 qV12 hbV12
          have e7V12 := qV12.lt
          have hzV12 := hbV12.size
          rw [← hvV12]
          clear hvV12
          refine hK.out _ _ sV12 (fun hHeldV12 => ?_)
          clear hK K
          try simp only [Act.put, List.getElem_toArray, List.getElem_cons_zero, List.getElem_cons_succ, List.setIfInBounds_toArray, List.set_cons_succ, List.set_cons_zero]
          refine wpAnyH_ready (rs := [5, 6]) (by kernel_rfl) (by simp) ?_
          refine AllReadyH.cons rfl (fun K hK => ?_) (AllReadyH.cons rfl (fun K hK => ?_) (AllReadyH.nil))
          · go_simp
            go_at_call 64
            refine (HAO.out _).mono ?_
            rintro e V13 ⟨rfl, hbV13⟩
            have sV13 := HSX _ _ sV12 hbV13
            have p7V13 := qV12.keep hbV13
            have e7V13 := p7V13.lt
            refine hK.out _ _ sV13 (fun hHeldV13 => ?_)
            clear hK K
            try simp only [Act.put, List.getElem_toArray, List.getElem_cons_zero, List.getElem_cons_succ, List.setIfInBounds_toArray, List.set_cons_succ, List.set_cons_zero]
            refine wpAnyH_ready (rs := [6]) (by kernel_rfl) (by simp) ?_
            refine AllReadyH.cons rfl (fun K hK => ?_) (AllReadyH.nil)
            · go_simp
              have hbV14 : Below V13.heap.size V13 (V13.alloc (.cells zSA 78)) := (Below.refl _ _).alloc (Nat.le_refl _) _
              have sV14 := HSX _ _ sV13 hbV14
              have qV14 : At (V13.alloc (.cells zSA 78)) V13.heap.size 78 zSA := At.new _ _ _
              have lV14 := HSL _ sV13
              have p7V14 := p7V13.keep hbV14
              obtain ⟨V14, hvV14⟩ : ∃ V : World, V = V13.alloc (.cells zSA 78) := ⟨_, rfl⟩
              rw [← hvV14] at sV14 qV14 hbV14 p7V14
              have e7V14 := p7V14.lt
              have e6V14 := qV14.lt
              have hzV14 := hbV14.size
              rw [← hvV14]
              clear hvV14
              refine hK.out _ _ sV14 (fun hHeldV14 => ?_)
              clear hK K
              try simp only [Act.put, List.getElem_toArray, List.getElem_cons_zero, List.getElem_cons_succ, List.setIfInBounds_toArray, List.set_cons_succ, List.set_cons_zero]
              have hne : V13.heap.size ≠ V1.heap.size := by omega
              refine wpAnyH_ready (rs := [8]) (by kernel_rfl) (by simp) ?_
              refine AllReadyH.cons rfl (fun K hK => ?_) AllReadyH.nil
              rw [if_pos (by rfl)]
              refine wp_store_row 78 (.tmp 11) (.tmp 31) rfl V13.heap.size (stC g1) (by rfl) (by rfl) 78 zSA qV14 (by kernel_rfl) rfl (stC_one _) ?_
              have gA := grown_setRow V14 V13.heap.size (stC g1)
              have pA := At.setRow qV14 (stC g1)
              have qA := p7V14.grown gA (fun e => hne (Option.some.inj e).symm)
              have sA := HSG _ _ _ sV14 gA lV14
              refine hK.out _ _ sA (fun hHeldA => ?_)
              clear hK K
              try simp only [Act.put, List.getElem_toArray, List.getElem_cons_zero, List.getElem_cons_succ]
              generalize World.setRow V14 V13.heap.size (stC g1) = WA at *
              refine wpAnyH_ready (rs := [9]) (by kernel_rfl) (by simp) ?_
              refine AllReadyH.cons rfl (fun K hK => ?_) AllReadyH.nil
              rw [if_pos (by rfl)]
              refine wp_store_row 78 (.tmp 12) (.tmp 34) rfl V1.heap.size (stC g2) (by rfl) (by rfl) 78 zSA qA (by kernel_rfl) rfl (stC_one _) ?_
              have gB := grown_setRow WA V1.heap.size (stC g2)
              have qB := At.setRow qA (stC g2)
              have pB := pA.grown gB (fun e => hne (Option.some.inj e))
              have sB := HSG _ _ _ sA gB lV12
              refine hK.out _ _ sB (fun hHeldB => ?_)
              clear hK K
              try simp only [Act.put, List.getElem_toArray, List.getElem_cons_zero, List.getElem_cons_succ]
              generalize World.setRow WA V1.heap.size (stC g2) = WB at *
              refine wpAnyH_done (by kernel_rfl) ?_ _
              exact FIN _ _ _ sB pB qB
          · go_simp
            have hbV15 : Below V12.heap.size V12 (V12.alloc (.cells zSA 78)) := (Below.refl _ _).alloc (Nat.le_refl _) _
            have sV15 := HSX _ _ sV12 hbV15
            have qV15 : At (V12.alloc (.cells zSA 78)) V12.heap.size 78 zSA := At.new _ _ _
            have lV15 := HSL _ sV12
            have p7V15 := qV12.keep hbV15
            obtain ⟨V15, hvV15⟩ : ∃ V : World, V = V12.alloc (.cells zSA 78) := ⟨_, rfl⟩
            rw [← hvV15] at sV15 qV15 hbV15 p7V15
            have e7V15 := p7V15.lt
            have e6V15 := qV15.lt
            have hzV15 := hbV15.size
            rw [← hvV15]
            clear hvV15
            refine hK.out _ _ sV15 (fun hHeldV15 => ?_)
            clear hK K
            try simp only [Act.put, List.getElem_toArray, List.getElem_cons_zero, List.getElem_cons_succ, List.setIfInBounds_toArray, List.set_cons_succ, List.set_cons_zero]
            refine wpAnyH_ready (rs := [5]) (by kernel_rfl) (by simp) ?_
            refine AllReadyH.cons rfl (fun K hK => ?_) (AllReadyH.nil)
            · go_simp
              go_at_call 64
              refine (HAO.out _).mono ?_
              rintro e V16 ⟨rfl, hbV16⟩
              have sV16 := HSX _ _ sV15 hbV16
              have p7V16 := p7V15.keep hbV16
              have e7V16 := p7V16.lt
              have p6V16 := qV15.keep hbV16
              have e6V16 := p6V16.lt
              refine hK.out _ _ sV16 (fun hHeldV16 => ?_)
              clear hK K
              try simp only [Act.put, List.getElem_toArray, List.getElem_cons_zero, List.getElem_cons_succ, List.setIfInBounds_toArray, List.set_cons_succ, List.set_cons_zero]
              have hne : V12.heap.size ≠ V1.heap.size := by omega
              refine wpAnyH_ready (rs := [8]) (by kernel_rfl) (by simp) ?_
              refine AllReadyH.cons rfl (fun K hK => ?_) AllReadyH.nil
              rw [if_pos (by rfl)]
              refine wp_store_row 78 (.tmp 11) (.tmp 31) rfl V12.heap.size (stC g1) (by rfl) (by rfl) 78 zSA p6V16 (by kernel_rfl) rfl (stC_one _) ?_
              have gA := grown_setRow V16 V12.heap.size (stC g1)
              have pA := At.setRow p6V16 (stC g1)
              have qA := p7V16.grown gA (fun e => hne (Option.some.inj e).symm)
              have sA := HSG _ _ _ sV16 gA lV15
              refine hK.out _ _ sA (fun hHeldA => ?_)
              clear hK K
              try simp only [Act.put, List.getElem_toArray, List.getElem_cons_zero, List.getElem_cons_succ]
              generalize World.setRow V16 V12.heap.size (stC g1) = WA at *
              refine wpAnyH_ready (rs := [9]) (by kernel_rfl) (by simp) ?_
              refine AllReadyH.cons rfl (fun K hK => ?_) AllReadyH.nil
              rw [if_pos (by rfl)]
              refine wp_store_row 78 (.tmp 12) (.tmp 34) rfl V1.heap.size (stC g2) (by rfl) (by rfl) 78 zSA qA (by kernel_rfl) rfl (stC_one _) ?_
              have gB := grown_setRow WA V1.heap.size (stC g2)
              have qB := At.setRow qA (stC g2)
              have pB := pA.grown gB (fun e => hne (Option.some.inj e))
              have sB := HSG _ _ _ sA gB lV12
              refine hK.out _ _ sB (fun hHeldB => ?_)
              clear hK K
              try simp only [Act.put, List.getElem_toArray, List.getElem_cons_zero, List.getElem_cons_succ]
              generalize World.setRow WA V1.heap.size (stC g2) = WB at *
              refine wpAnyH_done (by kernel_rfl) ?_ _
              exact FIN _ _ _ sB pB qB
      · go_simp
        have hbV17 : Below WD.heap.size WD (WD.alloc (.cells zSA 78)) := (Below.refl _ _).alloc (Nat.le_refl _) _
        have sV17 := HSX _ _ sD hbV17
        have qV17 : At (WD.alloc (.cells zSA 78)) WD.heap.size 78 zSA := At.new _ _ _
        have lV17 := HSL _ sD
        obtain ⟨V17, hvV17⟩ : ∃ V : World, V = WD.alloc (.cells zSA 78) := ⟨_, rfl⟩
        rw [← hvV17] at sV17 qV17 hbV17
        have e6V17 := qV17.lt
        have hzV17 := hbV17.size
        rw [← hvV17]
        clear hvV17
        refine hK.out _ _ sV17 (fun hHeldV17 => ?_)
        clear hK K
        try simp only [Act.put, List.getElem_toArray, List.getElem_cons_zero, List.getElem_cons_succ, List.setIfInBounds_toArray, List.set_cons_succ, List.set_cons_zero]
        refine wpAnyH_ready (rs := [2, 7]) (by kernel_rfl) (by simp) ?_
        refine AllReadyH.cons rfl (fun K hK => ?_) (AllReadyH.cons rfl (fun K hK => ?_) (AllReadyH.nil))
        · go_simp
          go_at_call 58
          refine (HIO.out _ (HX.out _ (HSB _ sV17))).mono ?_
          rintro e V18 ⟨rfl, hbV18⟩
          have sV18 := HSX _ _ sV17 hbV18
          have p6V18 := qV17.keep hbV18
          have e6V18 := p6V18.lt
          refine hK.out _ _ sV18 (fun hHeldV18 => ?_)
          clear hK K
          try simp only [Act.put, List.getElem_toArray, List.getElem_cons_zero, List.getElem_cons_succ, List.setIfInBounds_toArray, List.set_cons_succ, List.set_cons_zero]
          refine wpAnyH_ready (rs := [5, 7]) (by kernel_rfl) (by simp) ?_
          refine AllReadyH.cons rfl (fun K hK => ?_) (AllReadyH.cons rfl (fun K hK => ?_) (AllReadyH.nil))
          · go_simp
            go_at_call 64
            refine (HAO.out _).mono ?_
            rintro e V19 ⟨rfl, hbV19⟩
            have sV19 := HSX _ _ sV18 hbV19
            have p6V19 := p6V18.keep hbV19
            have e6V19 := p6V19.lt
            refine hK.out _ _ sV19 (fun hHeldV19 => ?_)
            clear hK K
            try simp only [Act.put, List.getElem_toArray, List.getElem_cons_zero, List.getElem_cons_succ, List.setIfInBounds_toArray, List.set_cons_succ, List.set_cons_zero]
            refine wpAnyH_ready (rs := [7]) (by kernel_rfl) (by simp) ?_
            refine AllReadyH.cons rfl (fun K hK => ?_) (AllReadyH.nil)
            · go_simp
              have hbV20 : Below V19.heap.size V19 (V19.alloc (.cells zSA 78)) := (Below.refl _ _).alloc (Nat.le_refl _) _
              have sV20 := HSX _ _ sV19 hbV20
              have qV20 : At (V19.alloc (.cells zSA 78)) V19.heap.size 78 zSA := At.new _ _ _
              have lV20 := HSL _ sV19
              have p6V20 := p6V19.keep hbV20
              obtain ⟨V20, hvV20⟩ : ∃ V : World, V = V19.alloc (.cells zSA 78) := ⟨_, rfl⟩
              rw [← hvV20] at sV20 qV20 hbV20 p6V20
              have e6V20 := p6V20.lt
              have e7V20 := qV20.lt
              have hzV20 := hbV20.size
              rw [← hvV20]
              clear hvV20
              refine hK.out _ _ sV20 (fun hHeldV20 => ?_)
              clear hK K
              try simp only [Act.put, List.getElem_toArray, List.getElem_cons_zero, List.getElem_cons_succ, List.setIfInBounds_toArray, List.set_cons_succ, List.set_cons_zero]
              have hne : WD.heap.size ≠ V19.heap.size := by omega
              refine wpAnyH_ready (rs := [8]) (by kernel_rfl) (by simp) ?_
              refine AllReadyH.cons rfl (fun K hK => ?_) AllReadyH.nil
              rw [if_pos (by rfl)]
              refine wp_store_row 78 (.tmp 11) (.tmp 31) rfl WD.heap.size (stC g1) (by rfl) (by rfl) 78 zSA p6V20 (by kernel_rfl) rfl (stC_one _) ?_
              have gA := grown_setRow V20 WD.heap.size (stC g1)
              have pA := At.setRow p6V20 (stC g1)
              have qA := qV20.grown gA (fun e => hne (Option.some.inj e).symm)
              have sA := HSG _ _ _ sV20 gA lV17
              refine hK.out _ _ sA (fun hHeldA => ?_)
              clear hK K
              try simp only [Act.put, List.getElem_toArray, List.getElem_cons_zero, List.getElem_cons_succ]
              generalize World.setRow V20 WD.heap.size (stC g1) = WA at *
              refine wpAnyH_ready (rs := [9]) (by kernel_rfl) (by simp) ?_
              refine AllReadyH.cons rfl (fun K hK => ?_) AllReadyH.nil
              rw [if_pos (by rfl)]
              refine wp_store_row 78 (.tmp 12) (.tmp 34) rfl V19.heap.size (stC g2) (by rfl) (by rfl) 78 zSA qA (by kernel_rfl) rfl (stC_one _) ?_
              have gB := grown_setRow WA V19.heap.size (stC g2)
              have qB := At.setRow qA (stC g2)
              have pB := pA.grown gB (fun e => hne (Option.some.inj e))
              have sB := HSG _ _ _ sA gB lV20
              refine hK.out _ _ sB (fun hHeldB => ?_)
              clear hK K
              try simp only [Act.put, List.getElem_toArray, List.getElem_cons_zero, List.getElem_cons_succ]
              generalize World.setRow WA V19.heap.size (stC g2) = WB at *
              refine wpAnyH_done (by kernel_rfl) ?_ _
              exact FIN _ _ _ sB pB qB
          · go_simp
            have hbV21 : Below V18.heap.size V18 (V18.alloc (.cells zSA 78)) := (Below.refl _ _).alloc (Nat.le_refl _) _
            have sV21 := HSX _ _ sV18 hbV21
            have qV21 : At (V18.alloc (.cells zSA 78)) V18.heap.size 78 zSA := At.new _ _ _
            have lV21 := HSL _ sV18
            have p6V21 := p6V18.keep hbV21
            obtain ⟨V21, hvV21⟩ : ∃ V : World, V = V18.alloc (.cells zSA 78) := ⟨_, rfl⟩
            rw [← hvV21] at sV21 qV21 hbV21 p6V21
            have e6V21 := p6V21.lt
            have e7V21 := qV21.lt
            have hzV21 := hbV21.size
            rw [← hvV21]
            clear hvV21
            refine hK.out _ _ sV21 (fun hHeldV21 => ?_)
            clear hK K
            try simp only [Act.put, List.getElem_toArray, List.getElem_cons_zero, List.getElem_cons_succ, List.setIfInBounds_toArray, List.set_cons_succ, List.set_cons_zero]
            refine wpAnyH_ready (rs := [5]) (by kernel_rfl) (by simp) ?_
            refine AllReadyH.cons rfl (fun K hK => ?_) (AllReadyH.nil)
            · go_simp
              go_at_call 64
              refine (HAO.out _).mono ?_
              rintro e V22 ⟨rfl, hbV22⟩
              have sV22 := HSX _ _ sV21 hbV22
              have p6V22 := p6V21.keep hbV22
              have e6V22 := p6V22.lt
              have p7V22 := qV21.keep hbV22
              have e7V22 := p7V22.lt
              refine hK.out _ _ sV22 (fun hHeldV22 => ?_)
              clear hK K
              try simp only [Act.put, List.getElem_toArray, List.getElem_cons_zero, List.getElem_cons_succ, List.setIfInBounds_toArray, List.set_cons_succ, List.set_cons_zero]
              have hne : WD.heap.size ≠ V18.heap.size := by omega
              refine wpAnyH_ready (rs := [8]) (by kernel_rfl) (by simp) ?_
              refine AllReadyH.cons rfl (fun K hK => ?_) AllReadyH.nil
              rw [if_pos (by rfl)]
              refine wp_store_row 78 (.tmp 11) (.tmp 31) rfl WD.heap.size (stC g1) (by rfl) (by rfl) 78 zSA p6V22 (by kernel_rfl) rfl (stC_one _) ?_
              have gA := grown_setRow V22 WD.heap.size (stC g1)
              have pA := At.setRow p6V22 (stC g1)
              have qA := p7V22.grown gA (fun e => hne (Option.some.inj e).symm)
              have sA := HSG _ _ _ sV22 gA lV17
              refine hK.out _ _ sA (fun hHeldA => ?_)
              clear hK K
              try simp only [Act.put, List.getElem_toArray, List.getElem_cons_zero, List.getElem_cons_succ]
              generalize World.setRow V22 WD.heap.size (stC g1) = WA at *
              refine wpAnyH_ready (rs := [9]) (by kernel_rfl) (by simp) ?_
              refine AllReadyH.cons rfl (fun K hK => ?_) AllReadyH.nil
              rw [if_pos (by rfl)]
              refine wp_store_row 78 (.tmp 12) (.tmp 34) rfl V18.heap.size (stC g2) (by rfl) (by rfl) 78 zSA qA (by kernel_rfl) rfl (stC_one _) ?_
              have gB := grown_setRow WA V18.heap.size (stC g2)
              have qB := At.setRow qA (stC g2)
              have pB := pA.grown gB (fun e => hne (Option.some.inj e))
              have sB := HSG _ _ _ sA gB lV21
              refine hK.out _ _ sB (fun hHeldB => ?_)
              clear hK K
              try simp only [Act.put, List.getElem_toArray, List.getElem_cons_zero, List.getElem_cons_succ]
              generalize World.setRow WA V18.heap.size (stC g2) = WB at *
              refine wpAnyH_done (by kernel_rfl) ?_ _
              exact FIN _ _ _ sB pB qB
        · go_simp
          have hbV23 : Below V17.heap.size V17 (V17.alloc (.cells zSA 78)) := (Below.refl _ _).alloc (Nat.le_refl _) _
          have sV23 := HSX _ _ sV17 hbV23
          have qV23 : At (V17.alloc (.cells zSA 78)) V17.heap.size 78 zSA := At.new _ _ _
          have lV23 := HSL _ sV17
          have p6V23 := qV17.keep hbV23
          obtain ⟨V23, hvV23⟩ : ∃ V : World, V = V17.alloc (.cells zSA 78) := ⟨_, rfl⟩
          rw [← hvV23] at sV23 qV23 hbV23 p6V23
          have e6V23 := p6V23.lt
          have e7V23 := qV23.lt
          have hzV23 := hbV23.size
          rw [← hvV23]
          clear hvV23
          refine hK.out _ _ sV23 (fun hHeldV23 => ?_)
          clear hK K
          try simp only [Act.put, List.getElem_toArray, List.getElem_cons_zero, List.getElem_cons_succ, List.setIfInBounds_toArray, List.set_cons_succ, List.set_cons_zero]
          refine wpAnyH_ready (rs := [2]) (by kernel_rfl) (by simp) ?_
          refine AllReadyH.cons rfl (fun K hK => ?_) (AllReadyH.nil)
          · go_simp
            go_at_call 58
            refine (HIO.out _ (HX.out _ (HSB _ sV23))).mono ?_
            rintro e V24 ⟨rfl, hbV24⟩
            have sV24 := HSX _ _ sV23 hbV24
            have p6V24 := p6V23.keep hbV24
            have e6V24 := p6V24.lt
            have p7V24 := qV23.keep hbV24
            have e7V24 := p7V24.lt
            refine hK.out _ _ sV24 (fun hHeldV24 => ?_)
            clear hK K
            try simp only [Act.put, List.getElem_toArray, List.getElem_cons_zero, List.getElem_cons_succ, List.setIfInBounds_toArray, List.set_cons_succ, List.set_cons_zero]
            refine wpAnyH_ready (rs := [5]) (by kernel_rfl) (by simp) ?_
            refine AllReadyH.cons rfl (fun K hK => ?_) (AllReadyH.nil)
            · go_simp
              go_at_call 64
              refine (HAO.out _).mono ?_
              rintro e V25 ⟨rfl, hbV25⟩
              have sV25 := HSX _ _ sV24 hbV25
              have p6V25 := p6V24.keep hbV25
              have e6V25 := p6V25.lt
              have p7V25 := p7V24.keep hbV25
              have e7V25 := p7V25.lt
              refine hK.out _ _ sV25 (fun hHeldV25 => ?_)
              clear hK K
              try simp only [Act.put, List.getElem_toArray, List.getElem_cons_zero, List.getElem_cons_succ, List.setIfInBounds_toArray, List.set_cons_succ, List.set_cons_zero]
              have hne : WD.heap.size ≠ V17.heap.size := by omega
              refine wpAnyH_ready (rs := [8]) (by kernel_rfl) (by simp) ?_
              refine AllReadyH.cons rfl (fun K hK => ?_) AllReadyH.nil
              rw [if_pos (by rfl)]
              refine wp_store_row 78 (.tmp 11) (.tmp 31) rfl WD.heap.size (stC g1) (by rfl) (by rfl) 78 zSA p6V25 (by kernel_rfl) rfl (stC_one _) ?_
              have gA := grown_setRow V25 WD.heap.size (stC g1)
              have pA := At.setRow p6V25 (stC g1)
              have qA := p7V25.grown gA (fun e => hne (Option.some.inj e).symm)
              have sA := HSG _ _ _ sV25 gA lV17
              refine hK.out _ _ sA (fun hHeldA => ?_)
              clear hK K
              try simp only [Act.put, List.getElem_toArray, List.getElem_cons_zero, List.getElem_cons_succ]
              generalize World.setRow V25 WD.heap.size (stC g1) = WA at *
              refine wpAnyH_ready (rs := [9]) (by kernel_rfl) (by simp) ?_
              refine AllReadyH.cons rfl (fun K hK => ?_) AllReadyH.nil
              rw [if_pos (by rfl)]
              refine wp_store_row 78 (.tmp 12) (.tmp 34) rfl V17.heap.size (stC g2) (by rfl) (by rfl) 78 zSA qA (by kernel_rfl) rfl (stC_one _) ?_
              have gB := grown_setRow WA V17.heap.size (stC g2)
              have qB := At.setRow qA (stC g2)
              have pB := pA.grown gB (fun e => hne (Option.some.inj e))
              have sB := HSG _ _ _ sA gB lV23
              refine hK.out _ _ sB (fun hHeldB => ?_)
              clear hK K
              try simp only [Act.put, List.getElem_toArray, List.getElem_cons_zero, List.getElem_cons_succ]
              generalize World.setRow WA V17.heap.size (stC g2) = WB at *
              refine wpAnyH_done (by kernel_rfl) ?_ _
              exact FIN _ _ _ sB pB qB
      · go_simp
        have hbV26 : Below WD.heap.size WD (WD.alloc (.cells zSA 78)) := (Below.refl _ _).alloc (Nat.le_refl _) _
        have sV26 := HSX _ _ sD hbV26
        have qV26 : At (WD.alloc (.cells zSA 78)) WD.heap.size 78 zSA := At.new _ _ _
        have lV26 := HSL _ sD
        obtain ⟨V26, hvV26⟩ : ∃ V : World, V = WD.alloc (.cells zSA 78) := ⟨_, rfl⟩
        rw [← hvV26] at sV26 qV26 hbV26
        have e7V26 := qV26.lt
        have hzV26 := hbV26.size
        rw [← hvV26]
        clear hvV26
        refine hK.out _ _ sV26 (fun hHeldV26 => ?_)
        clear hK K
        try simp only [Act.put, List.getElem_toArray, List.getElem_cons_zero, List.getElem_cons_succ, List.setIfInBounds_toArray, List.set_cons_succ, List.set_cons_zero]
        refine wpAnyH_ready (rs := [2, 6]) (by kernel_rfl) (by simp) ?_
        refine AllReadyH.cons rfl (fun K hK => ?_) (AllReadyH.cons rfl (fun K hK => ?_) (AllReadyH.nil))
        · go_simp
          go_at_call 58
          refine (HIO.out _ (HX.out _ (HSB _ sV26))).mono ?_
          rintro e V27 ⟨rfl, hbV27⟩
          have sV27 := HSX _ _ sV26 hbV27
          have p7V27 := qV26.keep hbV27
          have e7V27 := p7V27.lt
          refine hK.out _ _ sV27 (fun hHeldV27 => ?_)
          clear hK K
          try simp only [Act.put, List.getElem_toArray, List.getElem_cons_zero, List.getElem_cons_succ, List.setIfInBounds_toArray, List.set_cons_succ, List.set_cons_zero]
          refine wpAnyH_ready (rs := [5, 6]) (by kernel_rfl) (by simp) ?_
          refine AllReadyH.cons rfl (fun K hK => ?_) (AllReadyH.cons rfl (fun K hK => ?_) (AllReadyH.nil))
          · go_simp
            go_at_call 64
            refine (HAO.out _).mono ?_
            rintro e V28 ⟨rfl, hbV28⟩
            have sV28 := HSX _ _ sV27 hbV28
            have p7V28 := p7V27.keep hbV28
            have e7V28 := p7V28.lt
            refine hK.out _ _ sV28 (fun hHeldV28 => ?_)
            clear hK K
            try simp only [Act.put, List.getElem_toArray, List.getElem_cons_zero, List.getElem_cons_succ, List.setIfInBounds_toArray, List.set_cons_succ, List.set_cons_zero]
            refine wpAnyH_ready (rs := [6]) (by kernel_rfl) (by simp) ?_
            refine AllReadyH.cons rfl (fun K hK => ?_) (AllReadyH.nil)
            · go_simp
              have hbV29 : Below V28.heap.size V28 (V28.alloc (.cells zSA 78)) := (Below.refl _ _).alloc (Nat.le_refl _) _
              have sV29 := HSX _ _ sV28 hbV29
              have qV29 : At (V28.alloc (.cells zSA 78)) V28.heap.size 78 zSA := At.new _ _ _
              have lV29 := HSL _ sV28
              have p7V29 := p7V28.keep hbV29
              obtain ⟨V29, hvV29⟩ : ∃ V : World, V = V28.alloc (.cells zSA 78) := ⟨_, rfl⟩
              rw [← hvV29] at sV29 qV29 hbV29 p7V29
              have e7V29 := p7V29.lt
              have e6V29 := qV29.lt
              have hzV29 := hbV29.size
              rw [← hvV29]
              clear hvV29
              refine hK.out _ _ sV29 (fun hHeldV29 => ?_)
              clear hK K
              try simp only [Act.put, List.getElem_toArray, List.getElem_cons_zero, List.getElem_cons_succ, List.setIfInBounds_toArray, List.set_cons_succ, List.set_cons_zero]
              have hne : V28.heap.size ≠ WD.heap.size := by omega
              refine wpAnyH_ready (rs := [8]) (by kernel_rfl) (by simp) ?_
              refine AllReadyH.cons rfl (fun K hK => ?_) AllReadyH.nil
              rw [if_pos (by rfl)]
              refine wp_store_row 78 (.tmp 11) (.tmp 31) rfl V28.heap.size (stC g1) (by rfl) (by rfl) 78 zSA qV29 (by kernel_rfl) rfl (stC_one _) ?_
              have gA := grown_setRow V29 V28.heap.size (stC g1)
              have pA := At.setRow qV29 (stC g1)
              have qA := p7V29.grown gA (fun e => hne (Option.some.inj e).symm)
              have sA := HSG _ _ _ sV29 gA lV29
              refine hK.out _ _ sA (fun hHeldA => ?_)
              clear hK K
              try simp only [Act.put, List.getElem_toArray, List.getElem_cons_zero, List.getElem_cons_succ]
              generalize World.setRow V29 V28.heap.size (stC g1) = WA at *
              refine wpAnyH_ready (rs := [9]) (by kernel_rfl) (by simp) ?_
              refine AllReadyH.cons rfl (fun K hK => ?_) AllReadyH.nil
              rw [if_pos (by rfl)]
              refine wp_store_row 78 (.tmp 12) (.tmp 34) rfl WD.heap.size (stC g2) (by rfl) (by rfl) 78 zSA qA (by kernel_rfl) rfl (stC_one _) ?_
              have gB := grown_setRow WA WD.heap.size (stC g2)
              have qB := At.setRow qA (stC g2)
              have pB := pA.grown gB (fun e => hne (Option.some.inj e))
              have sB := HSG _ _ _ sA gB lV26
              refine hK.out _ _ sB (fun hHeldB => ?_)
              clear hK K
              try simp only [Act.put, List.getElem_toArray, List.getElem_cons_zero, List.getElem_cons_succ]
              generalize World.setRow WA WD.heap.size (stC g2) = WB at *
              refine wpAnyH_done (by kernel_rfl) ?_ _
              exact FIN _ _ _ sB pB qB
          · go_simp
            have hbV30 : Below V27.heap.size V27 (V27.alloc (.cells zSA 78)) := (Below.refl _ _).alloc (Nat.le_refl _) _
            have sV30 := HSX _ _ sV27 hbV30
            have qV30 : At (V27.alloc (.cells zSA 78)) V27.heap.size 78 zSA := At.new _ _ _
            have lV30 := HSL _ sV27
            have p7V30 := p7V27.keep hbV30
            obtain ⟨V30, hvV30⟩ : ∃ V : World, V = V27.alloc (.cells zSA 78) := ⟨_, rfl⟩
            rw [← hvV30] at sV30 qV30 hbV30 p7V30
            have e7V30 := p7V30.lt
            have e6V30 := qV30.lt
            have hzV30 := hbV30.size
            rw [← hvV30]
            clear hvV30
            refine hK.out _ _ sV30 (fun hHeldV30 => ?_)
            clear hK K
            try simp only [Act.put, List.getElem_toArray, List.getElem_cons_zero, List.getElem_cons_succ, List.setIfInBounds_toArray, List.set_cons_succ, List.set_cons_zero]
            refine wpAnyH_ready (rs := [5]) (by kernel_rfl) (by simp) ?_
            refine AllReadyH.cons rfl (fun K hK => ?_) (AllReadyH.nil)
            · go_simp
              go_at_call 64
              refine (HAO.out _).mono ?_
              rintro e V31 ⟨rfl, hbV31⟩
              have sV31 := HSX _ _ sV30 hbV31
              have p7V31 := p7V30.keep hbV31
              have e7V31 := p7V31.lt
              have p6V31 := qV30.keep hbV31
              have e6V31 := p6V31.lt
              refine hK.out _ _ sV31 (fun hHeldV31 => ?_)
              clear hK K
              try simp only [Act.put, List.getElem_toArray, List.getElem_cons_zero, List.getElem_cons_succ, List.setIfInBounds_toArray, List.set_cons_succ, List.set_cons_zero]
              have hne : V27.heap.size ≠ WD.heap.size := by omega
              refine wpAnyH_ready (rs := [8]) (by kernel_rfl) (by simp) ?_
              refine AllReadyH.cons rfl (fun K hK => ?_) AllReadyH.nil
              rw [if_pos (by rfl)]
              refine wp_store_row 78 (.tmp 11) (.tmp 31) rfl V27.heap.size (stC g1) (by rfl) (by rfl) 78 zSA p6V31 (by kernel_rfl) rfl (stC_one _) ?_
              have gA := grown_setRow V31 V27.heap.size (stC g1)
              have pA := At.setRow p6V31 (stC g1)
              have qA := p7V31.grown gA (fun e => hne (Option.some.inj e).symm)
              have sA := HSG _ _ _ sV31 gA lV30
              refine hK.out _ _ sA (fun hHeldA => ?_)
              clear hK K
              try simp only [Act.put, List.getElem_toArray, List.getElem_cons_zero, List.getElem_cons_succ]
              generalize World.setRow V31 V27.heap.size (stC g1) = WA at *
              refine wpAnyH_ready (rs := [9]) (by kernel_rfl) (by simp) ?_
              refine AllReadyH.cons rfl (fun K hK => ?_) AllReadyH.nil
              rw [if_pos (by rfl)]
              refine wp_store_row 78 (.tmp 12) (.tmp 34) rfl WD.heap.size (stC g2) (by rfl) (by rfl) 78 zSA qA (by kernel_rfl) rfl (stC_one _) ?_
              have gB := grown_setRow WA WD.heap.size (stC g2)
              have qB := At.setRow qA (stC g2)
              have pB := pA.grown gB (fun e => hne (Option.some.inj e))
              have sB := HSG _ _ _ sA gB lV26
              refine hK.out _ _ sB (fun hHeldB => ?_)
              clear hK K
              try simp only [Act.put, List.getElem_toArray, List.getElem_cons_zero, List.getElem_cons_succ]
              generalize World.setRow WA WD.heap.size (stC g2) = WB at *
              refine wpAnyH_done (by kernel_rfl) ?_ _
              exact FIN _ _ _ sB pB qB
        · go_simp
          have hbV32 : Below V26.heap.size V26 (V26.alloc (.cells zSA 78)) := (Below.refl _ _).alloc (Nat.le_refl _) _
          have sV32 := HSX _ _ sV26 hbV32
          have qV32 : At (V26.alloc (.cells zSA 78)) V26.heap.size 78 zSA := At.new _ _ _
          have lV32 := HSL _ sV26
          have p7V32 := qV26.keep hbV32
          obtain ⟨V32, hvV32⟩ : ∃ V : World, V = V26.alloc (.cells zSA 78) := ⟨_, rfl⟩
          rw [← hvV32] at sV32 qV32 hbV32 p7V32
          have e7V32 := p7V32.lt
          have e6V32 := qV32.lt
          have hzV32 := hbV32.size
          rw [← hvV32]
          clear hvV32
          refine hK.out _ _ sV32 (fun hHeldV32 => ?_)
          clear hK K
          try simp only [Act.put, List.getElem_toArray, List.getElem_cons_zero, List.getElem_cons_succ, List.setIfInBounds_toArray, List.set_cons_succ, List.set_cons_zero]
          refine wpAnyH_ready (rs := [2]) (by kernel_rfl) (by simp) ?_
          refine AllReadyH.cons rfl (fun K hK => ?_) (AllReadyH.nil)
          · go_simp
            go_at_call 58
            refine (HIO.out _ (HX.out _ (HSB _ sV32))).mono ?_
            rintro e V33 ⟨rfl, hbV33⟩
            have sV33 := HSX _ _ sV32 hbV33
            have p7V33 := p7V32.keep hbV33
            have e7V33 := p7V33.lt
            have p6V33 := qV32.keep hbV33
            have e6V33 := p6V33.lt
            refine hK.out _ _ sV33 (fun hHeldV33 => ?_)
            clear hK K
            try simp only [Act.put, List.getElem_toArray, List.getElem_cons_zero, List.getElem_cons_succ, List.setIfInBounds_toArray, List.set_cons_succ, List.set_cons_zero]
            refine wpAnyH_ready (rs := [5]) (by kernel_rfl) (by simp) ?_
            refine AllReadyH.cons rfl (fun K hK => ?_) (AllReadyH.nil)
            · go_simp
              go_at_call 64
              refine (HAO.out _).mono ?_
              rintro e V34 ⟨rfl, hbV34⟩
              have sV34 := HSX _ _ sV33 hbV34
              have p7V34 := p7V33.keep hbV34
              have e7V34 := p7V34.lt
              have p6V34 := p6V33.keep hbV34
              have e6V34 := p6V34.lt
              refine hK.out _ _ sV34 (fun hHeldV34 => ?_)
              clear hK K
              try simp only [Act.put, List.getElem_toArray, List.getElem_cons_zero, List.getElem_cons_succ, List.setIfInBounds_toArray, List.set_cons_succ, List.set_cons_zero]
              have hne : V26.heap.size ≠ WD.heap.size := by omega
              refine wpAnyH_ready (rs := [8]) (by kernel_rfl) (by simp) ?_
              refine AllReadyH.cons rfl (fun K hK => ?_) AllReadyH.nil
              rw [if_pos (by rfl)]
              refine wp_store_row 78 (.tmp 11) (.tmp 31) rfl V26.heap.size (stC g1) (by rfl) (by rfl) 78 zSA p6V34 (by kernel_rfl) rfl (stC_one _) ?_
              have gA := grown_setRow V34 V26.heap.size (stC g1)
              have pA := At.setRow p6V34 (stC g1)
              have qA := p7V34.grown gA (fun e => hne (Option.some.inj e).symm)
              have sA := HSG _ _ _ sV34 gA lV32
              refine hK.out _ _ sA (fun hHeldA => ?_)
              clear hK K
              try simp only [Act.put, List.getElem_toArray, List.getElem_cons_zero, List.getElem_cons_succ]
              generalize World.setRow V34 V26.heap.size (stC g1) = WA at *
              refine wpAnyH_ready (rs := [9]) (by kernel_rfl) (by simp) ?_
              refine AllReadyH.cons rfl (fun K hK => ?_) AllReadyH.nil
              rw [if_pos (by rfl)]
              refine wp_store_row 78 (.tmp 12) (.tmp 34) rfl WD.heap.size (stC g2) (by rfl) (by rfl) 78 zSA qA (by kernel_rfl) rfl (stC_one _) ?_
              have gB := grown_setRow WA WD.heap.size (stC g2)
              have qB := At.setRow qA (stC g2)
              have pB := pA.grown gB (fun e => hne (Option.some.inj e))
              have sB := HSG _ _ _ sA gB lV26
              refine hK.out _ _ sB (fun hHeldB => ?_)
              clear hK K
              try simp only [Act.put, List.getElem_toArray, List.getElem_cons_zero, List.getElem_cons_succ]
              generalize World.setRow WA WD.heap.size (stC g2) = WB at *
              refine wpAnyH_done (by kernel_rfl) ?_ _
              exact FIN _ _ _ sB pB qB
--@ORDERSEND
    · rw [h1, Bool.false_and] at HIF
      rw [h1] at HSV
      clear hv hMV h1 hx hy hT
      generalize tbF ys = f at *
      generalize wnN t.data.toList = n at *
      go_enter Tryd.func22, Tryd.ntmps22
      go_wp2_with fail
      refine HTW.out.mono ?_
      rintro e w1 ⟨rfl, hb1⟩
      have a1 := a0.keep hb1
      have B1 := hB0.trans (hb1.mono hs0)
      have hs1 := B1.size
      have a2 := a1.alloc (.cells (tabA f) 86)
      have B2 := B1.alloc hs1 (.cells (tabA f) 86)
      have hs2 := B2.size
      clear a0 hb1 hB0 HTW a1 B1
      go_wp2_with fail
      refine (HSV.out _ (HX.out _ B2)).mono ?_
      rintro e w3 ⟨rfl, hb3⟩
      have a3 := a2.keep hb3
      have B3 := B2.trans (hb3.mono hs2)
      have f3 := a3.frozen 0
      have c3 := a3.cell 0
      have l3 := a3.lt
      have a4 := a3.set 0 (.bool false)
      clear a2 B2 hb3
      go_wp2
      refine bodyPost_ret (results_irf _ w.heap.size (.bool false) a4 _ rfl) rfl ⟨by rw [HIF.out], B3.setCell (Nat.le_refl _) _⟩
  · rw [hv, Bool.false_and, Bool.and_false] at HIF
    rw [hv] at HTW
    clear hv hx hy hT
    generalize tbF ys = f at *
    generalize wnN t.data.toList = n at *
    go_enter Tryd.func22, Tryd.ntmps22
    go_wp2_with fail
    refine HTW.out.mono ?_
    rintro e w1 ⟨rfl, hb1⟩
    have a1 := a0.keep hb1
    have B1 := hB0.trans (hb1.mono hs0)
    have hs1 := B1.size
    have a2 := a1.alloc (.cells (tabA f) 86)
    have B2 := B1.alloc hs1 (.cells (tabA f) 86)
    have hs2 := B2.size
    have f3 := a2.frozen 0
    have c3 := a2.cell 0
    have l3 := a2.lt
    have a4 := a2.set 0 (.bool false)
    clear a0 hb1 hB0 HTW a1 B1
    go_wp2
    refine bodyPost_ret (results_irf _ w.heap.size (.bool false) a4 _ rfl) rfl ⟨by rw [HIF.out], B2.setCell (Nat.le_refl _) _⟩
end Go.Proofs.YtplapaojgcloaaaDoor
namespace Go.PM
open Go.RowKit
def mdig : Nat → Nat → List UInt8
  | 0, _ => []
  | f + 1, n => if n = 0 then [] else mdig f (n / 10) ++ [UInt8.ofNat (48 + n % 10)]
def mT (k : Nat) : ByteArray := if k = 0 then ⟨#[109, 48]⟩ else ⟨(109 :: mdig k k).toArray⟩
theorem mdig_zero (f : Nat) : mdig f 0 = [] := by cases f <;> simp [mdig]
theorem mdig_step (f n : Nat) (h : n ≤ f) (h0 : 0 < n) : ∃ f', f = f' + 1 ∧ n / 10 ≤ f' ∧ mdig f n = mdig f' (n / 10) ++ [UInt8.ofNat (48 + n % 10)] := by
  cases f with
  | zero => omega
  | succ f => exact ⟨f, rfl, by omega, by simp [mdig]; omega⟩
end Go.PM
namespace Go.Proofs.YtplapaojgcloaaaDoor
open Go.RowKit Go.PM

theorem conv_one (W : World) (c : Int) : (convert 22 9 (.slice (some ⟨W.heap.size, 0, none⟩) 1 1)).run Tryd.prog (W.alloc (.cells #[.int .u8 c] 5)) =
    .ok (.string ⟨#[UInt8.ofNat c.toNat]⟩) (W.alloc (.cells #[.int .u8 c] 5)) := by
  rw [run_convert_bytes_string _ _ _ _ _ _ _ Tryd.underlying22 Tryd.underlying5 Tryd.underlying9]
  have hl : (loadCells ⟨W.heap.size, 0, none⟩ 1).run Tryd.prog (W.alloc (.cells #[.int .u8 c] 5)) = .ok ([c].map (Value.int .u8)).toArray (W.alloc (.cells #[.int .u8 c] 5)) :=
    run_loadCells_list (P := Tryd.prog) (W.alloc (.cells #[.int .u8 c] 5)) ⟨W.heap.size, 0, none⟩ [Value.int .u8 c] (fun j v hj => by
      cases j with
      | zero =>
        simp [Addr.add] at hj ⊢
        exact hj
      | succ j => simp at hj)
  rw [run_bytesToString (ns := [c]) _ _ _ _ hl]
  rfl

set_option maxRecDepth 100000 in
set_option maxHeartbeats 800000 in
theorem markText_c (k : Nat) (w : World) (h1 : 1 ≤ k) (h2 : k ≤ 8388608) :
    Calls Tryd.prog 82 #[.int .i64 k] w fun e w' => e = .returned (.string (mT k)) ∧ Below w.heap.size w w' := by
  have hp : ¬ (k : Int) ≤ 0 := by omega
  go_enter Tryd.func82, Tryd.ntmps82
  go_wp2
  go_loopw [0, 3] (fun i o wr => ∃ (n f : Nat) (t : ByteArray), i = .int .i64 n ∧ o = .string t ∧ t.size + n ≤ k ∧ n ≤ f ∧ Hid (mdig k k = mdig f n ++ t.data.toList) ∧ Below w.heap.size w wr) (fun i _ _ => (intOf i).toNat)
  case atStart => exact ⟨k, k, ⟨#[]⟩, rfl, rfl, Nat.le_of_eq (Nat.zero_add _), by omega, (List.append_nil _).symm, Below.refl _ _⟩
  case round =>
    obtain ⟨n, f, t, rfl, rfl, hs, hf, hd, hb⟩ := hrel
    have hbs := hb.size
    by_cases h0 : 0 < n
    · obtain ⟨f', hff, hf', hstep⟩ := mdig_step f n hf h0
      have hcv := conv_one wr (48 + (n : Int) % 10)
      have hcn : UInt8.ofNat (48 + (n : Int) % 10).toNat = UInt8.ofNat (48 + n % 10) := by
        rw [show (48 + (n : Int) % 10).toNat = 48 + n % 10 by omega]
      rw [hcn] at hcv
      have HST := Lib.hid hstep
      have HFF := Lib.hid hff
      generalize UInt8.ofNat (48 + n % 10) = c at *
      have hc1 : (⟨#[c]⟩ : ByteArray).size ≤ 1 := Nat.le_refl _
      clear hstep hff hcn
      go_wp2
      go_roundw
      case rel =>
        refine ⟨n / 10, f', _, by go_num, rfl, ?_, hf', ?_, by (repeat' (first | (with_reducible exact Below.refl _ _) | (with_reducible assumption) | (with_reducible refine Below.alloc ?_ ?_ _) | (with_reducible refine Below.drew ?_) | (with_reducible refine Below.setCell ?_ ?_ _) | (with_reducible exact Nat.le_refl _) | omega | ((repeat (first | rewrite [World.size_alloc] | rewrite [World.size_setCell] | rewrite [World.size_drew])); omega) | (simp; omega) | (simp; done)))⟩
        · simp only [ByteArray.size_append]; omega
        · show _ = _
          rw [hd.out, HST.out]; simp
      case measure => simp [intOf]; omega
    · have hn0 : n = 0 := by omega
      have h3 := hd.out
      rw [hn0, mdig_zero, List.nil_append] at h3
      have HT : Hid ((⟨#[109]⟩ : ByteArray) ++ t = mT k) := by
        show _ = _
        unfold mT
        rw [if_neg (by omega), h3]
        exact Go.WideShapes.bytes_inj (by simp)
      clear h3 hn0
      go_wp2
      go_ret
      exact ⟨by rw [← HT.out]; rfl, hb⟩
theorem markText_i (k : Int) (w : World) (h1 : 1 ≤ k) (h2 : k ≤ 8388608) :
    Calls Tryd.prog 82 #[.int .i64 k] w fun e w' => e = .returned (.string (mT k.toNat)) ∧ Below w.heap.size w w' := by
  obtain ⟨n, rfl⟩ := Int.eq_ofNat_of_zero_le (show 0 ≤ k by omega)
  exact markText_c n w (by omega) (by omega)
/-- the cells behind n marked moves, the first mark being number k -/
def marks : Nat → Nat → List Mv
  | 0, _ => []
  | n + 1, k => (mT k, mT (k + 1)) :: marks n (k + 2)
theorem marks_length (n k : Nat) : (marks n k).length = n := by
  induction n generalizing k with
  | zero => rfl
  | succ n ih => simp [marks, ih]
theorem marks_at (n k i : Nat) (h : i < (marks n k).length) : (marks n k)[i] = (mT (k + 2 * i), mT (k + 2 * i + 1)) := by
  induction n generalizing k i with
  | zero => simp [marks] at h
  | succ n ih =>
    cases i with
    | zero => rfl
    | succ i =>
      simp only [marks, List.getElem_cons_succ]
      rw [ih]
      congr 2 <;> omega
/-- the first i of the moves are marked -/
def mmix (xs : List Mv) (i k : Nat) : List Mv := marks i k ++ xs.drop i
theorem marks_snoc (i k : Nat) : marks (i + 1) k = marks i k ++ [(mT (k + 2 * i), mT (k + 2 * i + 1))] := by
  induction i generalizing k with
  | zero => rfl
  | succ i ih =>
    rw [marks, ih (k + 2)]
    simp only [marks, List.cons_append]
    rw [show k + 2 + 2 * i = k + 2 * (i + 1) by omega]
theorem mmix_length (xs : List Mv) (i k : Nat) (h : i ≤ xs.length) : (mmix xs i k).length = xs.length := by
  simp [mmix, marks_length]; omega
theorem mmix_set (xs : List Mv) (i k : Nat) (h : i < xs.length) : ((mcells (mmix xs i k)).set (i * 2) (.string (mT (k + 2 * i)))).set (i * 2 + 1) (.string (mT (k + 2 * i + 1))) = mcells (mmix xs (i + 1) k) := by
  have hl : (mcells (marks i k)).length = i * 2 := by rw [mcells_length, marks_length]
  unfold mmix
  rw [marks_snoc, List.drop_eq_getElem_cons h, mcells_append, mcells_append, mcells_append, mcells_cons]
  rw [List.set_append_right _ _ (by omega), List.set_append_right _ _ (by omega), hl, Nat.sub_self, show i * 2 + 1 - i * 2 = 1 by omega]
  simp [mcells]

set_option maxRecDepth 100000 in
set_option maxHeartbeats 800000 in
theorem markMoveS_c (xs : List Mv) (v : Value) (base : Nat) (k : Int) (w : World) (ho : w.ownsRow base 70 2 v xs.length (mcells xs)) (hn : xs.length ≤ 1048576) (h1 : 1 ≤ k) (hk : k ≤ 4194304) :
    Calls Tryd.prog 33 #[v, .int .i64 k] w fun e w' => e = .returned (.int .i64 (k + 2 * (xs.length : Int))) ∧ w'.ownsRow base 70 2 v xs.length (mcells (marks xs.length k.toNat)) ∧ w.grownBy w' v.ownBlock := by
  by_cases h0 : xs.length = 0
  · have hx : xs = [] := List.length_eq_zero_iff.1 h0
    subst hx
    have ho2 := ho
    obtain ⟨A, cap, rfl, _⟩ := Rd.of_own ho
    have ho3 := Lib.hid ho2
    clear ho ho2
    simp only [List.length_nil]
    go_enter Tryd.func33, Tryd.ntmps33
    go_wp2
    refine wp_loop_rounds 1 ?_
    rw [rounds_succ]
    go_wp2
    go_ret
    exact ⟨by simp, by simpa [marks] using ho3.out, grown_refl _ _⟩
  · obtain ⟨g, cap, rfl, _⟩ := ho.form (by omega)
    have hA0 : (0 : Int) < xs.length := by omega
    clear h0
    go_enter Tryd.func33, Tryd.ntmps33
    go_wp2
    go_loopw [1, 5] (fun m i wr => ∃ (j : Nat), j ≤ xs.length ∧ i = .int .i64 j ∧ m = .int .i64 (k + 2 * (j : Int)) ∧ wr.ownsRow base 70 2 (.slice (some ⟨g, 0, none⟩) xs.length cap) xs.length (mcells (mmix xs j k.toNat)) ∧ w.grownBy wr (some g)) (fun _ i _ => xs.length - (intOf i).toNat)
    case atStart => exact ⟨0, by omega, rfl, by simp, by simpa [mmix, marks] using ho, grown_refl _ _⟩
    case round =>
      obtain ⟨j, hj, rfl, rfl, hr, hg⟩ := hrel
      by_cases hlt : j < xs.length
      · have hms := mmix_set xs j k.toNat hlt
        have hml := mmix_length xs j k.toNat hj
        have HMS := Lib.hid hms
        have hcl : ∀ i, i < xs.length * 2 → ∃ u, (mcells (mmix xs j k.toNat))[i]? = some u := fun i hi => by
          have : i < (mcells (mmix xs j k.toNat)).length := by rw [mcells_length, hml]; exact hi
          exact ⟨_, List.getElem?_eq_getElem this⟩
        obtain ⟨c1, hc1⟩ := hcl (j * 2) (by omega)
        obtain ⟨c2, hc2⟩ := hcl (j * 2 + 1) (by omega)
        have HC := Lib.hid (And.intro hc1 hc2)
        have hlg := (own_lt hr).1
        clear hms hml hcl hc1 hc2
        go_wp2_with fail
        refine (markText_i _ _ (by omega) (by omega)).mono ?_
        rintro e w1 ⟨rfl, hb1⟩
        have hr1 := own_keep hr hb1
        have hf1 := hr1.frozenAt (j * 2)
        have hq1 := (hr1.cellAt (j * 2) (by omega)).trans HC.out.1
        have hg1 := grown_trans hg (grown_below hb1 (some g))
        clear hr hg
        go_wp2_with fail
        have hr2 := (hr1.stored (j * 2) (.string (mT (k + 2 * (j : Int)).toNat))).1
        have hg2 := grown_trans hg1 (hr1.stored (j * 2) (.string (mT (k + 2 * (j : Int)).toNat))).2
        clear hr1 hf1 hq1 hg1
        generalize w1.setCell ⟨g, j * 2, none⟩ (.string (mT (k + 2 * (j : Int)).toNat)) = w2 at *
        refine (markText_i _ _ (by omega) (by omega)).mono ?_
        rintro e w3 ⟨rfl, hb3⟩
        have hr3 := own_keep hr2 hb3
        have hf3 := hr3.frozenAt (j * 2 + 1)
        have hq3 : w3.cell? ⟨g, j * 2 + 1, none⟩ = some c2 := (hr3.cellAt (j * 2 + 1) (by omega)).trans (by rw [List.getElem?_set_ne (by omega)]; exact HC.out.2)
        have hg3 := grown_trans hg2 (grown_below hb3 (some g))
        clear hr2 hg2
        go_wp2
        go_roundw
        case rel =>
          refine ⟨j + 1, by omega, by go_num, by go_num, ?_, ?_⟩
          · rw [← HMS.out]
            have e1 : (k + 2 * (j : Int)).toNat = k.toNat + 2 * j := by omega
            have e2 : (k + 2 * (j : Int) + 1).toNat = k.toNat + 2 * j + 1 := by omega
            have h := (hr3.stored (j * 2 + 1) (.string (mT (k + 2 * (j : Int) + 1).toNat))).1
            rw [e1, e2] at h
            rw [e2]
            exact h
          · exact grown_trans hg3 (hr3.stored (j * 2 + 1) _).2
        case measure => simp [intOf]; omega
      · have hj' : j = xs.length := by omega
        have h3 := hr
        rw [hj'] at h3
        have e3 : mmix xs xs.length k.toNat = marks xs.length k.toNat := by simp [mmix]
        rw [e3] at h3
        have HJ : Hid ((j : Int) = xs.length) := by show _ = _; rw [hj']
        clear hj' e3
        go_wp2
        go_ret
        exact ⟨by rw [← HJ.out]; rfl, h3, hg⟩
set_option maxRecDepth 100000 in
set_option maxHeartbeats 800000 in
theorem heldMoveS_c (n : Nat) (v : Value) (k : Int) (w : World) (hx : RdM w v (marks n k.toNat)) (hn : n ≤ 1048576) (h1 : 1 ≤ k) (hk : k ≤ 4194304) :
    Calls Tryd.prog 34 #[v, .int .i64 k] w fun e w' => e = .returned (.int .i64 (k + 2 * (n : Int))) ∧ Below w.heap.size w w' := by
  obtain ⟨A, cap, hv, hnn, hc, hcell⟩ := hx.open
  rw [marks_length] at hv hnn hc
  subst hv
  go_enter Tryd.func34, Tryd.ntmps34
  go_wp2
  go_loopw [1, 5] (fun m i wr => ∃ (j : Nat), j ≤ n ∧ i = .int .i64 j ∧ m = .int .i64 (k + 2 * (j : Int)) ∧ Below w.heap.size w wr) (fun _ i _ => n - (intOf i).toNat)
  case atStart => exact ⟨0, by omega, rfl, by simp, Below.refl _ _⟩
  case round =>
    obtain ⟨j, hj, rfl, rfl, hb⟩ := hrel
    have hbs := hb.size
    by_cases hlt : j < n
    · obtain ⟨b, off, rfl, hbl, hc1, hc2⟩ := hcell j (by rw [marks_length]; exact hlt)
      rw [marks_at] at hc1 hc2
      have e1 : (k + 2 * (j : Int)).toNat = k.toNat + 2 * j := by omega
      have e2 : (k + 2 * (j : Int) + 1).toNat = k.toNat + 2 * j + 1 := by omega
      rw [← e1] at hc1
      rw [← e2] at hc2
      have hx1 : ∀ x : Ext w.heap.size wr, x.val.cell? ⟨b, off + j * 2, none⟩ = some (.string (mT (k + 2 * (j : Int)).toNat)) := fun x => ((x.property.cell (p := ⟨b, _, none⟩) hbl).trans (hb.cell (p := ⟨b, _, none⟩) hbl)).trans hc1
      clear e1 e2 hcell
      have i0 : (0 : Int) ≤ (j : Int) := by omega
      have i1 : (j : Int) < n := by omega
      go_wp2
      refine wp_region_ext w.heap.size (by kernel_rfl) (by kernel_rfl) ?_
      repeat (go_big_quiet_step ((go_at_call 82; exact ext_call _ hb.size (markText_i _ _ (by omega) (by omega)))))
      refine wpQuiet_nil ?_
      intro w2 hw'
      obtain ⟨xw, hxw⟩ := hw'
      have hb2 := xw.property
      rw [← hxw] at hb2
      clear hxw xw
      have e1 : (k + 2 * (j : Int)).toNat = k.toNat + 2 * j := by omega
      have hbw2 := hb.trans hb2
      have hd2 : w2.cell? ⟨b, off + j * 2 + 1, none⟩ = some (.string (mT (k + 2 * (j : Int) + 1).toNat)) := (hbw2.cell (p := ⟨b, _, none⟩) hbl).trans hc2
      have hx2 : ∀ x : Ext w.heap.size w2, x.val.cell? ⟨b, off + j * 2 + 1, none⟩ = some (.string (mT (k + 2 * (j : Int) + 1).toNat)) := fun x => (x.property.cell (p := ⟨b, _, none⟩) hbl).trans hd2
      clear hx1 hd2 e1 hb2 hc1 hc2
      have hbs2 := hbw2.size
      go_wp2
      refine wp_region_ext w.heap.size (by kernel_rfl) (by kernel_rfl) ?_
      repeat (go_big_quiet_step ((go_at_call 82; exact ext_call _ hbw2.size (markText_i _ _ (by omega) (by omega)))))
      refine wpQuiet_nil ?_
      intro w3 hw'
      obtain ⟨xw, hxw⟩ := hw'
      have hb3 := xw.property
      rw [← hxw] at hb3
      clear hxw xw
      clear hx2
      go_wp2
      go_roundw
      case rel => exact ⟨j + 1, by omega, by go_num, by go_num, hbw2.trans hb3⟩
      case measure => simp [intOf]; omega
    · have HJ : Hid ((j : Int) = n) := by show _ = _; omega
      go_wp2
      go_ret
      exact ⟨by rw [← HJ.out]; rfl, hb⟩
end Go.Proofs.YtplapaojgcloaaaDoor
namespace Go.PM
open Go.RowKit
def ssize : List St → Nat
  | [] => 0
  | x :: xs => x.2.1.size + x.2.2.size + 1 + ssize xs
theorem ssize_len (xs : List St) : xs.length ≤ ssize xs := by
  induction xs with
  | nil => simp [ssize]
  | cons x xs ih => simp only [ssize, List.length_cons]; omega
theorem ssize_append (xs ys : List St) : ssize (xs ++ ys) = ssize xs + ssize ys := by
  induction xs with
  | nil => simp [ssize]
  | cons x xs ih => simp only [List.cons_append, ssize, ih]; omega
theorem ssize_take_succ (xs : List St) (k : Nat) (hk : k < xs.length) : ssize (xs.take (k+1)) = ssize (xs.take k) + xs[k].2.1.size + xs[k].2.2.size + 1 := by
  rw [take_snoc xs k hk, ssize_append]; simp only [ssize]; omega
def zSt : List Value := [.int .i64 0, .string ⟨#[]⟩, .string ⟨#[]⟩]
def shalf (xs : List St) (k : Nat) : List Value := scells (xs.take k) ++ (List.replicate (xs.length - k) zSt).flatten
theorem shalf_at (xs : List St) (k : Nat) (hk : k < xs.length) : (shalf xs k)[k*3]? = some (Value.int .i64 0) ∧ (shalf xs k)[k*3+1]? = some (Value.string ⟨#[]⟩) ∧ (shalf xs k)[k*3+2]? = some (Value.string ⟨#[]⟩) := by
  have hl : (scells (xs.take k)).length = k * 3 := by rw [scells_length, List.length_take]; omega
  obtain ⟨d, hd⟩ : ∃ d, xs.length - k = d + 1 := ⟨xs.length - k - 1, by omega⟩
  unfold shalf
  rw [hd, List.replicate_succ, List.flatten_cons]
  refine ⟨?_, ?_, ?_⟩
  · rw [List.getElem?_append_right (by omega), hl]; simp [zSt]
  · rw [List.getElem?_append_right (by omega), hl, show k * 3 + 1 - k * 3 = 1 by omega]; simp [zSt]
  · rw [List.getElem?_append_right (by omega), hl, show k * 3 + 2 - k * 3 = 2 by omega]; simp [zSt]
theorem shalf_set (xs : List St) (k : Nat) (hk : k < xs.length) : (((shalf xs k).set (k*3) (.int .i64 xs[k].1)).set (k*3+1) (.string xs[k].2.1)).set (k*3+2) (.string xs[k].2.2) = shalf xs (k+1) := by
  have hl : (scells (xs.take k)).length = k * 3 := by rw [scells_length, List.length_take]; omega
  obtain ⟨d, hd⟩ : ∃ d, xs.length - k = d + 1 := ⟨xs.length - k - 1, by omega⟩
  unfold shalf
  rw [hd, List.replicate_succ, List.flatten_cons, show xs.length - (k+1) = d by omega, take_snoc xs k hk, scells_append]
  rw [List.set_append_right _ _ (by omega), List.set_append_right _ _ (by omega), List.set_append_right _ _ (by omega), hl]
  rw [show k * 3 - k * 3 = 0 by omega, show k * 3 + 1 - k * 3 = 1 by omega, show k * 3 + 2 - k * 3 = 2 by omega]
  simp [scells, zSt]
theorem shalf_zero (xs : List St) : shalf xs 0 = (List.replicate xs.length zSt).flatten := by simp [shalf, scells]
theorem shalf_full (xs : List St) : shalf xs xs.length = scells xs := by simp [shalf]
def stEq (k : Int) (a b : ByteArray) (k' : Int) (a' b' : ByteArray) : Bool := decide (k = k' ∧ a = a' ∧ b = b')
end Go.PM
namespace Go.Proofs.YtplapaojgcloaaaDoor
open Go.RowKit Go.PM

set_option maxHeartbeats 400000 in
theorem szStep_c (k : Int) (a b : ByteArray) (left : Int) (w : World) (h0 : 0 ≤ left) (h1 : left ≤ 1048576) (ha : a.size ≤ 9223372036854775807) (hb : b.size ≤ 9223372036854775807) :
    Calls Tryd.prog 89 #[.agg #[.int .i64 k, .string a, .string b], .int .i64 left] w fun e w' => (∃ r : Int, e = .returned (.int .i64 r) ∧ (0 ≤ r → r + a.size + b.size = left) ∧ r ≤ left) ∧ Below w.heap.size w w' := by
  go_enter Tryd.func89, Tryd.ntmps89
  go_wp2_with fail
  refine (szMove_c a b left _ h0 h1 ha hb).mono ?_
  rintro e w1 ⟨⟨r, rfl, hr, hq⟩, hb1⟩
  have HR := Lib.hid hr
  clear hr
  have hb2 : Below w.heap.size w w1 := ((Below.refl _ _).alloc (Nat.le_refl _) _).trans (hb1.mono (by simp))
  by_cases hn : r < 0
  · go_wp2
    go_ret
    exact ⟨⟨-1, rfl, by omega, by omega⟩, hb2⟩
  · go_wp2
    go_ret
    exact ⟨⟨r, rfl, HR.out, hq⟩, hb2⟩
set_option maxHeartbeats 400000 in
theorem szStepS_c (xs : List St) (v : Value) (left : Int) (w : World) (h0 : 0 ≤ left) (h1 : left ≤ 1048576) (hx : RdS w v xs) (hz : ∀ m ∈ xs, m.2.1.size ≤ 9223372036854775807 ∧ m.2.2.size ≤ 9223372036854775807) :
    Calls Tryd.prog 44 #[v, .int .i64 left] w fun e w' => (∃ r : Int, e = .returned (.int .i64 r) ∧ (0 ≤ r → r + ssize xs = left) ∧ r ≤ left) ∧ Below w.heap.size w w' := by
  obtain ⟨A, cap, rfl, hn, hc, hcell⟩ := hx.open
  by_cases c1 : left - (xs.length : Int) < 0
  · go_enter Tryd.func44, Tryd.ntmps44
    go_wp2
    go_ret
    exact ⟨⟨-1, rfl, by omega, by omega⟩, Below.refl _ _⟩
  go_enter Tryd.func44, Tryd.ntmps44
  go_wp2
  go_loopw [1, 5] (fun l i wr => ∃ (k : Nat) (r : Int), k ≤ xs.length ∧ i = .int .i64 k ∧ l = .int .i64 r ∧ 0 ≤ r ∧ r ≤ 1048576 ∧ r ≤ left ∧ Hid (r + ssize (xs.take k) + (xs.length - k) = left) ∧ Below w.heap.size w wr) (fun _ i _ => xs.length - (intOf i).toNat)
  case atStart => exact ⟨0, _, by omega, rfl, rfl, by omega, by omega, by omega, by show _ = _; simp [ssize], Below.refl _ _⟩
  case round =>
    obtain ⟨k, r, hk, rfl, rfl, hr0, hr1, hr2, hr3, hb⟩ := hrel
    by_cases hlt : k < xs.length
    · obtain ⟨b, off, rfl, hbl, hc1, hc2, hc3⟩ := hcell k hlt
      have hd1 := (hb.cell (p := ⟨b, off + k * 3, none⟩) hbl).trans hc1
      have hd2 := (hb.cell (p := ⟨b, off + k * 3 + 1, none⟩) hbl).trans hc2
      have hd3 := (hb.cell (p := ⟨b, off + k * 3 + 2, none⟩) hbl).trans hc3
      have hzz := hz xs[k] (List.getElem_mem hlt)
      clear hc1 hc2 hc3
      have hts := ssize_take_succ xs k hlt
      have HR : Hid (∀ r' : Int, r' + (xs[k].2.1.size : Int) + xs[k].2.2.size = r → r' + ssize (xs.take (k+1)) + (xs.length - ((k + 1 : Nat) : Int)) = left) := by
        intro r' h'; have := hr3; unfold Hid at this; rw [hts]; push_cast; omega
      clear hts hcell
      go_wp2_with fail
      refine (szStep_c _ _ _ r _ hr0 hr1 hzz.1 hzz.2).mono ?_
      rintro e w' ⟨⟨r', rfl, hr4, hr5⟩, hb'⟩
      have hr6 := Lib.hid hr4; clear hr4
      by_cases hneg : r' < 0
      · go_wp2
        go_ret
        exact ⟨⟨-1, rfl, by omega, by omega⟩, hb.trans (hb'.mono hb.size)⟩
      · go_wp2
        go_roundw
        case rel => exact ⟨k + 1, r', by omega, by go_num, rfl, by omega, by omega, by omega, HR.out _ (hr6.out (by omega)), hb.trans (hb'.mono hb.size)⟩
        case measure => simp [intOf]; omega
    · have hk' : k = xs.length := by omega
      have hr3' := hr3.out
      rw [hk', List.take_of_length_le (Nat.le_refl _)] at hr3'
      have HR : Hid (r + (ssize xs : Int) = left) := by show _ = _; omega
      clear hr3' hk'
      go_wp2
      go_ret
      exact ⟨⟨r, rfl, fun _ => HR.out, hr2⟩, hb⟩
theorem toStep_c (k : Int) (a b : ByteArray) (w : World) :
    Calls Tryd.prog 90 #[.agg #[.int .i64 k, .string a, .string b]] w fun e w' => e = .returned (.agg #[.int .i64 k, .string a, .string b]) ∧ Below w.heap.size w w' := by
  have hA1 : At (((w.alloc (.cells #[.int .i64 k, .string a, .string b] 119)).alloc (.cells #[.int .i64 0, .string ⟨#[]⟩, .string ⟨#[]⟩] 72)).alloc (.cells #[.int .i64 k, .string ⟨#[]⟩, .string ⟨#[]⟩] 72)) (w.heap.size + 1) 72 #[.int .i64 0, .string ⟨#[]⟩, .string ⟨#[]⟩] := by
    have := At.new (w.alloc (.cells #[.int .i64 k, .string a, .string b] 119)) 72 #[.int .i64 0, .string ⟨#[]⟩, .string ⟨#[]⟩]
    rw [World.size_alloc] at this; exact this.alloc _
  have hA2 : At (((w.alloc (.cells #[.int .i64 k, .string a, .string b] 119)).alloc (.cells #[.int .i64 0, .string ⟨#[]⟩, .string ⟨#[]⟩] 72)).alloc (.cells #[.int .i64 k, .string ⟨#[]⟩, .string ⟨#[]⟩] 72)) (w.heap.size + 1 + 1) 72 #[.int .i64 k, .string ⟨#[]⟩, .string ⟨#[]⟩] := by
    have := At.new ((w.alloc (.cells #[.int .i64 k, .string a, .string b] 119)).alloc (.cells #[.int .i64 0, .string ⟨#[]⟩, .string ⟨#[]⟩] 72)) 72 #[.int .i64 k, .string ⟨#[]⟩, .string ⟨#[]⟩]
    rwa [World.size_alloc, World.size_alloc] at this
  go_enter Tryd.func90, Tryd.ntmps90
  go_wp2_with fail
  refine (toMove_c a b _).mono ?_
  rintro e w1 ⟨rfl, hb1⟩
  have k1 := hA1.keep hb1
  have k2 := hA2.keep hb1
  have hB : Below w.heap.size w w1 := Below.trans (by (repeat' (first | (with_reducible exact Below.refl _ _) | (with_reducible assumption) | (with_reducible refine Below.alloc ?_ ?_ _) | (with_reducible refine Below.drew ?_) | (with_reducible refine Below.setCell ?_ ?_ _) | (with_reducible exact Nat.le_refl _) | omega | ((repeat (first | rewrite [World.size_alloc] | rewrite [World.size_setCell] | rewrite [World.size_drew])); omega) | (simp; omega) | (simp; done)))) (hb1.mono (by simp; omega))
  have hl1 := k1.lt
  have hl2 := k2.lt
  clear hA1 hA2
  have q1 : w1.cell? ⟨w.heap.size + 1, 0, none⟩ = some (.int .i64 0) := k1.cell 0
  have q2 : w1.cell? ⟨w.heap.size + 1, 1, none⟩ = some (.string ⟨#[]⟩) := k1.cell 1
  have q3 : w1.cell? ⟨w.heap.size + 1, 2, none⟩ = some (.string ⟨#[]⟩) := k1.cell 2
  have q4 : w1.cell? ⟨w.heap.size + 1 + 1, 0, none⟩ = some (.int .i64 k) := k2.cell 0
  have q5 : w1.cell? ⟨w.heap.size + 1 + 1, 1, none⟩ = some (.string ⟨#[]⟩) := k2.cell 1
  have q6 : w1.cell? ⟨w.heap.size + 1 + 1, 2, none⟩ = some (.string ⟨#[]⟩) := k2.cell 2
  have z1 := k1.frozen 0
  have z2 := k1.frozen 1
  have z3 := k1.frozen 2
  have z4 := k2.frozen 0
  have z5 := k2.frozen 1
  have z6 := k2.frozen 2
  clear k1 k2
  go_wp2
  refine bodyPost_ret (v := .agg #[.int .i64 k, .string a, .string b]) (by simp [results, Tryd.results90, go_sem, q1, q2, q3]) rfl ⟨rfl, ?_⟩
  (repeat' (first | (with_reducible exact Below.refl _ _) | (with_reducible assumption) | (with_reducible refine Below.alloc ?_ ?_ _) | (with_reducible refine Below.drew ?_) | (with_reducible refine Below.setCell ?_ ?_ _) | (with_reducible exact Nat.le_refl _) | omega | ((repeat (first | rewrite [World.size_alloc] | rewrite [World.size_setCell] | rewrite [World.size_drew])); omega) | (simp; omega) | (simp; done)))
theorem infoSt : (Tryd.prog.info? 72).map (fun i => (i.zero, i.size, i.bytes)) = some (some (.agg #[.int .i64 0, .string ⟨#[]⟩, .string ⟨#[]⟩]), 3, 40) := by kernel_rfl

set_option maxHeartbeats 400000 in
theorem toStepS_c (xs : List St) (v : Value) (w : World) (hx : RdS w v xs) (hn' : xs.length ≤ 1048576) :
    Calls Tryd.prog 45 #[v] w fun e w' => ∃ v', e = .returned v' ∧ w'.ownsRow w.heap.size 72 3 v' xs.length (scells xs) ∧ Below w.heap.size w w' := by
  obtain ⟨A, cap, rfl, hn, hc, hcell⟩ := hx.open
  obtain ⟨i0, hi0, hz0, hz1, hz2⟩ := info_parts infoSt
  have hmk := fun W : World => run_make (P := Tryd.prog) W 23 72 i0 _ Tryd.underlying23 hi0 hz0 .i64 .i64 xs.length xs.length (by omega) (Int.le_refl _) (by rw [hz2]; omega) (by omega)
  simp only [Int.toNat_natCast, hz1] at hmk
  have hO := own_made w w.heap.size 72 #[Value.int .i64 0, Value.string ⟨#[]⟩, Value.string ⟨#[]⟩] 3 xs.length rfl (by omega) (by omega) (Nat.le_refl _)
  have hB : Below w.heap.size w (w.alloc (Obj.cells (madeCells #[Value.int .i64 0, Value.string ⟨#[]⟩, Value.string ⟨#[]⟩] (xs.length * 3)) 72)) := (Below.refl _ _).alloc (Nat.le_refl _) _
  go_enter Tryd.func45, Tryd.ntmps45
  go_wp2
  generalize (w.alloc (Obj.cells (madeCells #[Value.int .i64 0, Value.string ⟨#[]⟩, Value.string ⟨#[]⟩] (xs.length * 3)) 72)) = W1 at *
  go_loopw [4] (fun i wr => ∃ (k : Nat), k ≤ xs.length ∧ i = .int .i64 k ∧ wr.ownsRow w.heap.size 72 3 (.slice (some ⟨w.heap.size, 0, none⟩) xs.length xs.length) xs.length (shalf xs k) ∧ Below w.heap.size w wr) (fun i _ => xs.length - (intOf i).toNat)
  case atStart => exact ⟨0, by omega, rfl, by rw [shalf_zero]; exact hO, hB⟩
  case round =>
    obtain ⟨k, hk, rfl, ho, hb⟩ := hrel
    by_cases hlt : k < xs.length
    · obtain ⟨b, off, rfl, hbl, hc1, hc2, hc3⟩ := hcell k hlt
      have hd1 := (hb.cell (p := ⟨b, off + k * 3, none⟩) hbl).trans hc1
      have hd2 := (hb.cell (p := ⟨b, off + k * 3 + 1, none⟩) hbl).trans hc2
      have hd3 := (hb.cell (p := ⟨b, off + k * 3 + 2, none⟩) hbl).trans hc3
      clear hc1 hc2 hc3 hcell
      go_wp2_with fail
      refine (toStep_c _ _ _ _).mono ?_
      rintro e w' ⟨rfl, hb'⟩
      have ho' := own_keep ho hb'
      have hf1 := ho'.frozenAt (k * 3)
      have hf2 := ho'.frozenAt (k * 3 + 1)
      have hf3 := ho'.frozenAt (k * 3 + 2)
      have hg1 := (ho'.cellAt (k * 3) (by omega)).trans (shalf_at xs k hlt).1
      have hg2 := (ho'.cellAt (k * 3 + 1) (by omega)).trans (shalf_at xs k hlt).2.1
      have hg3 := (ho'.cellAt (k * 3 + 2) (by omega)).trans (shalf_at xs k hlt).2.2
      go_wp2
      go_roundw
      case rel =>
        refine ⟨k + 1, by omega, by go_num, ?_, ?_⟩
        · rw [← shalf_set xs k hlt]
          exact (((ho'.stored (k * 3) _).1.stored (k * 3 + 1) _).1.stored (k * 3 + 2) _).1
        · exact ((((hb.trans (hb'.mono hb.size)).setCell (Nat.le_refl _) _).setCell (Nat.le_refl _) _).setCell (Nat.le_refl _) _)
      case measure => simp [intOf]; omega
    · have hk' : k = xs.length := by omega
      have ho2 := ho
      rw [hk', shalf_full] at ho2
      go_wp2
      go_ret
      exact ⟨_, rfl, ho2, hb⟩
set_option maxHeartbeats 400000 in
theorem eqStep_c (k : Int) (a b : ByteArray) (k' : Int) (c d : ByteArray) (w : World) :
    Calls Tryd.prog 88 #[.agg #[.int .i64 k, .string a, .string b], .agg #[.int .i64 k', .string c, .string d]] w fun e w' => e = .returned (.bool (stEq k a b k' c d)) ∧ Below w.heap.size w w' := by
  have HS : Hid (stEq k a b k' c d = (decide (k = k') && mvEq a b c d)) := by show _ = _; simp [stEq, mvEq]
  by_cases hk : k = k'
  · have e1 : (k != k') = false := by simp [hk]
    have HK := Lib.hid hk
    clear hk
    rcases Bool.eq_false_or_eq_true (mvEq a b c d) with hm | hm
    all_goals
      go_enter Tryd.func88, Tryd.ntmps88
      go_wp2_with fail
      refine (eqMove_c a b c d _).mono ?_
      rintro e w1 ⟨rfl, hb1⟩
      rw [hm]
      have hB : Below w.heap.size w w1 := Below.trans (by (repeat' (first | (with_reducible exact Below.refl _ _) | (with_reducible assumption) | (with_reducible refine Below.alloc ?_ ?_ _) | (with_reducible refine Below.drew ?_) | (with_reducible refine Below.setCell ?_ ?_ _) | (with_reducible exact Nat.le_refl _) | omega | ((repeat (first | rewrite [World.size_alloc] | rewrite [World.size_setCell] | rewrite [World.size_drew])); omega) | (simp; omega) | (simp; done)))) (hb1.mono (by simp; omega))
      go_wp2
      go_ret
      exact ⟨by rw [HS.out, hm, decide_eq_true HK.out]; rfl, hB⟩
  · have e1 : (k != k') = true := by simp [hk]
    have HK := Lib.hid hk
    clear hk
    go_enter Tryd.func88, Tryd.ntmps88
    go_wp2
    go_ret
    exact ⟨by rw [HS.out, decide_eq_false HK.out]; rfl, by (repeat' (first | (with_reducible exact Below.refl _ _) | (with_reducible assumption) | (with_reducible refine Below.alloc ?_ ?_ _) | (with_reducible refine Below.drew ?_) | (with_reducible refine Below.setCell ?_ ?_ _) | (with_reducible exact Nat.le_refl _) | omega | ((repeat (first | rewrite [World.size_alloc] | rewrite [World.size_setCell] | rewrite [World.size_drew])); omega) | (simp; omega) | (simp; done)))⟩
end Go.Proofs.YtplapaojgcloaaaDoor
namespace Go.PM
open Go.RowKit
/-- the cells behind n marked steps, the first mark being number k -/
def smarks : Nat → Nat → List St
  | 0, _ => []
  | n + 1, k => ((k : Int), mT (k + 1), mT (k + 2)) :: smarks n (k + 3)
theorem smarks_length (n k : Nat) : (smarks n k).length = n := by
  induction n generalizing k with
  | zero => rfl
  | succ n ih => simp [smarks, ih]
theorem smarks_at (n k i : Nat) (h : i < (smarks n k).length) : (smarks n k)[i] = (((k + 3 * i : Nat) : Int), mT (k + 3 * i + 1), mT (k + 3 * i + 2)) := by
  induction n generalizing k i with
  | zero => simp [smarks] at h
  | succ n ih =>
    cases i with
    | zero => rfl
    | succ i =>
      simp only [smarks, List.getElem_cons_succ]
      rw [ih, show k + 3 + 3 * i = k + 3 * (i + 1) by omega]
def smix (xs : List St) (i k : Nat) : List St := smarks i k ++ xs.drop i
theorem smarks_snoc (i k : Nat) : smarks (i + 1) k = smarks i k ++ [(((k + 3 * i : Nat) : Int), mT (k + 3 * i + 1), mT (k + 3 * i + 2))] := by
  induction i generalizing k with
  | zero => rfl
  | succ i ih =>
    rw [smarks, ih (k + 3)]
    simp only [smarks, List.cons_append]
    rw [show k + 3 + 3 * i = k + 3 * (i + 1) by omega]
theorem smix_length (xs : List St) (i k : Nat) (h : i ≤ xs.length) : (smix xs i k).length = xs.length := by
  simp [smix, smarks_length]; omega
theorem smix_set (xs : List St) (i k : Nat) (h : i < xs.length) : (((scells (smix xs i k)).set (i * 3) (.int .i64 ((k + 3 * i : Nat) : Int))).set (i * 3 + 1) (.string (mT (k + 3 * i + 1)))).set (i * 3 + 2) (.string (mT (k + 3 * i + 2))) = scells (smix xs (i + 1) k) := by
  have hl : (scells (smarks i k)).length = i * 3 := by rw [scells_length, smarks_length]
  unfold smix
  rw [smarks_snoc, List.drop_eq_getElem_cons h, scells_append, scells_append, scells_append, scells_cons]
  rw [List.set_append_right _ _ (by omega), List.set_append_right _ _ (by omega), List.set_append_right _ _ (by omega), hl, Nat.sub_self, show i * 3 + 1 - i * 3 = 1 by omega, show i * 3 + 2 - i * 3 = 2 by omega]
  simp [scells]
end Go.PM
namespace Go.Proofs.YtplapaojgcloaaaDoor
open Go.RowKit Go.PM

set_option maxRecDepth 100000 in
set_option maxHeartbeats 400000 in
theorem eqStepS_c (xs ys : List St) (v u : Value) (w : World) (hx : RdS w v xs) (hy : RdS w u ys) :
    Calls Tryd.prog 41 #[v, u] w fun e w' => e = .returned (.bool (decide (xs = ys))) ∧ Below w.heap.size w w' := by
  obtain ⟨A, cap, rfl, hn, hc, hcell⟩ := hx.open
  obtain ⟨A', cap', rfl, hn', hc', hcell'⟩ := hy.open
  by_cases hl : xs.length = ys.length
  · have hl1 : ((xs.length : Int) == ys.length) = true := by simp [hl]
    have hl2 := Lib.hid hl
    clear hl
    go_enter Tryd.func41, Tryd.ntmps41
    go_wp2
    go_loopw [5] (fun i wr => ∃ (k : Nat), k ≤ xs.length ∧ i = .int .i64 k ∧ Hid (xs.take k = ys.take k) ∧ Below w.heap.size w wr) (fun i _ => xs.length - (intOf i).toNat)
    case atStart => exact ⟨0, by omega, rfl, by show _ = _; simp, Below.refl _ _⟩
    case round =>
      obtain ⟨k, hk, rfl, ht, hb⟩ := hrel
      by_cases hlt : k < xs.length
      · obtain ⟨b, off, rfl, hbl, hc1, hc2, hc3⟩ := hcell k hlt
        obtain ⟨b', off', rfl, hbl', hc1', hc2', hc3'⟩ := hcell' k (by have := hl2.out; omega)
        have hlt2 : k < ys.length := by have := hl2.out; omega
        have HE : Hid (∀ h : stEq xs[k].1 xs[k].2.1 xs[k].2.2 ys[k].1 ys[k].2.1 ys[k].2.2 = true, xs[k] = ys[k]) := fun h => by
          simp [stEq] at h
          exact Prod.ext h.1 (Prod.ext h.2.1 h.2.2)
        have HN : Hid (stEq xs[k].1 xs[k].2.1 xs[k].2.2 ys[k].1 ys[k].2.1 ys[k].2.2 = false → ¬ xs = ys) := fun h e => by
          subst e; simp [stEq] at h
        have HT : Hid (xs[k] = ys[k] → xs.take (k + 1) = ys.take (k + 1)) := fun h => by rw [take_snoc xs k hlt, take_snoc ys k hlt2, ht.out, h]
        have hx1 : ∀ x : Ext w.heap.size wr, x.val.cell? ⟨b, off + k * 3, none⟩ = some (.int .i64 xs[k].1) := fun x => ((x.property.cell (p := ⟨b, _, none⟩) hbl).trans (hb.cell (p := ⟨b, _, none⟩) hbl)).trans hc1
        have hx2 : ∀ x : Ext w.heap.size wr, x.val.cell? ⟨b, off + k * 3 + 1, none⟩ = some (.string xs[k].2.1) := fun x => ((x.property.cell (p := ⟨b, _, none⟩) hbl).trans (hb.cell (p := ⟨b, _, none⟩) hbl)).trans hc2
        have hx3 : ∀ x : Ext w.heap.size wr, x.val.cell? ⟨b, off + k * 3 + 2, none⟩ = some (.string xs[k].2.2) := fun x => ((x.property.cell (p := ⟨b, _, none⟩) hbl).trans (hb.cell (p := ⟨b, _, none⟩) hbl)).trans hc3
        have hx4 : ∀ x : Ext w.heap.size wr, x.val.cell? ⟨b', off' + k * 3, none⟩ = some (.int .i64 ys[k].1) := fun x => ((x.property.cell (p := ⟨b', _, none⟩) hbl').trans (hb.cell (p := ⟨b', _, none⟩) hbl')).trans hc1'
        have hx5 : ∀ x : Ext w.heap.size wr, x.val.cell? ⟨b', off' + k * 3 + 1, none⟩ = some (.string ys[k].2.1) := fun x => ((x.property.cell (p := ⟨b', _, none⟩) hbl').trans (hb.cell (p := ⟨b', _, none⟩) hbl')).trans hc2'
        have hx6 : ∀ x : Ext w.heap.size wr, x.val.cell? ⟨b', off' + k * 3 + 2, none⟩ = some (.string ys[k].2.2) := fun x => ((x.property.cell (p := ⟨b', _, none⟩) hbl').trans (hb.cell (p := ⟨b', _, none⟩) hbl')).trans hc3'
        clear hc1 hc2 hc3 hcell hc1' hc2' hc3' hcell'
        have i0 : (0 : Int) ≤ (k : Int) := by omega
        have i1 : (k : Int) < xs.length := by omega
        have i2 : (k : Int) < ys.length := by omega
        generalize xs[k].1 = x1 at *
        generalize xs[k].2.1 = x2 at *
        generalize xs[k].2.2 = x3 at *
        generalize ys[k].1 = y1 at *
        generalize ys[k].2.1 = y2 at *
        generalize ys[k].2.2 = y3 at *
        have hE := fun W => eqStep_c x1 x2 x3 y1 y2 y3 W
        generalize stEq x1 x2 x3 y1 y2 y3 = q at *
        go_wp2
        refine wp_region_ext w.heap.size (by kernel_rfl) (by kernel_rfl) ?_
        repeat (go_big_quiet_step ((go_at_call 88; exact ext_call _ hb.size (hE _))))
        refine wpQuiet_nil ?_
        intro w2 hw'
        obtain ⟨xw, hxw⟩ := hw'
        have hb2 := xw.property
        rw [← hxw] at hb2
        clear hxw xw
        clear hx1 hx2 hx3 hx4 hx5 hx6 hE
        rcases q with _ | _
        · have HD : Hid (decide (xs = ys) = false) := decide_eq_false (HN.out rfl)
          go_wp2
          go_ret
          exact ⟨by rw [HD.out]; rfl, hb.trans hb2⟩
        · have HD : Hid (xs.take (k + 1) = ys.take (k + 1)) := HT.out (HE.out rfl)
          go_wp2
          go_roundw
          case rel => exact ⟨k + 1, by omega, by go_num, HD, hb.trans hb2⟩
          case measure => simp [intOf]; omega
      · have hk' : k = xs.length := by omega
        have h2 := ht.out
        have h3 := hl2.out
        rw [hk', List.take_of_length_le (Nat.le_refl _), List.take_of_length_le (by omega)] at h2
        have H2 := Lib.hid h2
        clear h2 h3 hk'
        go_wp2
        go_ret
        exact ⟨by simp [H2.out], hb⟩
  · go_enter Tryd.func41, Tryd.ntmps41
    go_wp2
    · go_ret
      exact ⟨by simp; intro h; subst h; simp at hl, Below.refl _ _⟩
theorem rdS_mk {w : World} {ad : Addr} {cap : Nat} (xs : List St) (hc : xs.length ≤ cap) (hn : xs.length ≤ 9223372036854775807)
    (h : ∀ i (hi : i < xs.length), w.cell? (ad.add (i * 3)) = some (.int .i64 xs[i].1) ∧ w.cell? ((ad.add (i * 3)).add 1) = some (.string xs[i].2.1) ∧ w.cell? ((ad.add (i * 3)).add 2) = some (.string xs[i].2.2)) : RdS w (.slice (some ad) xs.length cap) xs := by
  refine ⟨some ad, cap, rfl, hc, hn, scells_length xs, fun h0 => ?_⟩
  have h1 := (h 0 h0).1
  obtain ⟨b, off, spot⟩ := ad
  have hs : spot = none := by
    have := World.cell?_spot h1
    simpa [Addr.add] using this
  subst hs
  have hadd : ∀ o i, (Addr.mk b o none).add i = ⟨b, o + i, none⟩ := fun o i => by
    unfold Addr.add; split
    · next h => subst h; rfl
    · rfl
  refine ⟨b, off, rfl, ?_, fun j u hu => ?_⟩
  · rcases Nat.lt_or_ge b w.heap.size with hlt | hge
    · exact hlt
    · rw [hadd] at h1
      simp [World.cell?, Array.getElem?_eq_none hge] at h1
  · have hj : j < xs.length * 3 := by rw [← scells_length]; exact (List.getElem?_eq_some_iff.1 hu).1
    have hk : j / 3 < xs.length := by omega
    have hm := scells_at xs (j / 3) _ (List.getElem?_eq_getElem hk)
    have hh := h (j / 3) hk
    rw [hadd, hadd, hadd] at hh
    have h3 : j % 3 = 0 ∨ j % 3 = 1 ∨ j % 3 = 2 := by omega
    rcases h3 with h0 | h0 | h0
    · have e : j / 3 * 3 = j := by omega
      rw [e] at hm hh
      rw [hm.1] at hu
      rw [hh.1, hu]
    · have e : j / 3 * 3 + 1 = j := by omega
      rw [e] at hm
      rw [Nat.add_assoc, e] at hh
      rw [hm.2.1] at hu
      rw [hh.2.1, hu]
    · have e : j / 3 * 3 + 2 = j := by omega
      rw [e] at hm
      have h4 := hh.2.2
      rw [Nat.add_assoc, e] at h4
      rw [hm.2.2] at hu
      rw [h4, hu]
open Go.ChangeShapes Go.WideShapes Go.Deep in
set_option maxRecDepth 100000 in
theorem open_steps {H : Type} {enc : TypeId × Value → H} {W : World} {base fuel : Nat} {spare : Nat → Bool} {held : Bool} {a : Option Addr} {n c : Nat} {x : DataW H × List MemPlace}
    (h : DataW.trod enc Tryd.prog W base spare held fuel 52 [.slice a n c] = some x) :
    ∃ xs : List St, RdS W (.slice a n c) xs ∧ ∀ m ∈ xs, m.2.1.size ≤ 9223372036854775807 ∧ m.2.2.size ≤ 9223372036854775807 := by
  rcases open_slice Tryd.underlying52 h with ⟨hcs, _⟩ | ⟨ad, len, cap, m, k, D, Pl, hcs, hb, hl, hm, hmm, hx, hi⟩
  · simp at hcs
    obtain ⟨rfl, rfl, rfl⟩ := hcs
    exact ⟨[], ⟨none, 0, rfl, by simp, by simp, rfl, by simp⟩, by simp⟩
  · simp at hcs
    obtain ⟨rfl, rfl, rfl⟩ := hcs
    have hC : Tryd.prog.cellsOf 119 = 3 := by kernel_rfl
    have hC2 : Tryd.prog.cellsOf 103 = 2 := by kernel_rfl
    have hml : n ≤ m := by rw [hmm]; split <;> omega
    have hM : maxLen = 9223372036854775807 := rfl
    obtain ⟨xs, hxl, hxs⟩ := exists_list (fun i (m : St) => W.cell? (ad.add (i * 3)) = some (.int .i64 m.1) ∧ W.cell? ((ad.add (i * 3)).add 1) = some (.string m.2.1) ∧ W.cell? ((ad.add (i * 3)).add 2) = some (.string m.2.2) ∧ m.2.1.size ≤ 9223372036854775807 ∧ m.2.2.size ≤ 9223372036854775807) n (fun i hin => by
      obtain ⟨cs', hc', ht⟩ := hi i (by omega)
      rw [hC] at hc'
      obtain ⟨y0, y1, k', _, hlen, h0, h1⟩ := trod_struct2 Tryd.underlying119 ht
      obtain ⟨_, hcl, hat⟩ := World.cells?_some hc'
      rw [hC] at hlen
      match cs', hlen with
      | [c0, c1, c2], _ =>
        have e0 : Tryd.prog.cellsOf 9 = 1 := by kernel_rfl
        have e1 : Tryd.prog.cellsOf 3 = 1 := by kernel_rfl
        simp only [e1, hC2] at h0 h1
        simp at h0 h1
        obtain ⟨z0, z1, k2, _, hlen2, g0, g1⟩ := trod_struct2 Tryd.underlying103 h1
        simp only [e0] at g0 g1
        simp at g0 g1
        obtain ⟨kk, hk, _, _⟩ := DataW.trod_int Tryd.underlying3 h0
        obtain ⟨s, hs, _, hs1⟩ := DataW.trod_string Tryd.underlying9 g0
        obtain ⟨t, hta, _, ht1⟩ := DataW.trod_string Tryd.underlying9 g1
        simp at hk hs hta
        subst hk hs hta
        refine ⟨(kk, s, t), ?_, ?_, ?_, hM ▸ hs1, hM ▸ ht1⟩
        · have := hat 0 (by omega)
          simpa [Addr.add] using this
        · have := hat 1 (by omega)
          simpa using this
        · have := hat 2 (by omega)
          simpa using this)
    subst hxl
    refine ⟨xs, rdS_mk xs hl (by omega) fun i hi => ⟨(hxs i hi).1, (hxs i hi).2.1, (hxs i hi).2.2.1⟩, fun m hm => ?_⟩
    obtain ⟨i, hi, rfl⟩ := List.getElem_of_mem hm
    exact (hxs i hi).2.2.2
end Go.Proofs.YtplapaojgcloaaaDoor
namespace Go.Proofs.YtplapaojgcloaaaDoor
open Go.RowKit Go.PM Go.PE
set_option maxRecDepth 100000 in
set_option maxHeartbeats 1600000 in
theorem exIsRightFor (w : World) (xs0 : List St) (v0 : Value) (hx0 : RdS w v0 xs0) (hz0 : ∀ m ∈ xs0, m.2.1.size ≤ 9223372036854775807 ∧ m.2.2.size ≤ 9223372036854775807) (xs1 : List Mv) (v1 : Value) (hx1 : RdM w v1 xs1) (hz1 : ∀ m ∈ xs1, m.1.size ≤ 9223372036854775807 ∧ m.2.size ≤ 9223372036854775807) (s2 : ByteArray) (_hs2 : s2.size ≤ maxLen) (hG : Tz w) :
    Calls Tryd.prog 10 #[v0, v1, .string s2] w fun e w' => e = .returned (.bool true) ∧ Below w.heap.size w w' := by
  by_cases hb2 : 1048576 < s2.size
  · go_enter Tryd.func10, Tryd.ntmps10
    go_wp2
    go_ret
    exact ⟨rfl, Below.refl _ _⟩
  go_enter Tryd.func10, Tryd.ntmps10
  go_wp2_with fail
  refine (szStepS_c xs0 v0 1048576 _ (by decide) (by decide) hx0 hz0).mono ?_
  rintro e w1 ⟨⟨r0, rfl, hr0, hq0⟩, Hw1⟩
  have HR0 := Lib.hid hr0
  clear hr0
  have Bw1 := Hw1
  have Zw1 := Bw1.size
  by_cases hneg0 : r0 < 0
  · go_wp2
    go_ret
    exact ⟨rfl, Bw1⟩
  have hl0 : xs0.length ≤ 1048576 := by have := HR0.out (by omega); have := ssize_len xs0; omega
  have hm0 : ssize xs0 ≤ 1048576 := by have := HR0.out (by omega); omega
  go_wp2_with fail
  refine (szMoveS_c xs1 v1 r0 _ (by omega) (by omega) (hx1.below Bw1) hz1).mono ?_
  rintro e w2 ⟨⟨r1, rfl, hr1, hq1⟩, Hw2⟩
  have HR1 := Lib.hid hr1
  clear hr1
  have Bw2 : Below w.heap.size w w2 := Bw1.trans (Hw2.mono Zw1)
  have Zw2 := Bw2.size
  by_cases hneg1 : r1 < 0
  · go_wp2
    go_ret
    exact ⟨rfl, Bw2⟩
  have hl1 : xs1.length ≤ 1048576 := by have := HR1.out (by omega); have := msize_len xs1; omega
  have hm1 : msize xs1 ≤ 1048576 := by have := HR1.out (by omega); omega
  go_wp2_with fail
  refine (toStepS_c xs0 v0 _ (hx0.below Bw2) hl0).mono ?_
  rintro e w3 ⟨uw3, rfl, how3, Hw3⟩
  have Bw3 : Below w.heap.size w w3 := Bw2.trans (Hw3.mono Zw2)
  have Zw3 := Bw3.size
  have Rw3 : RdS w3 uw3 xs0 := Rd.of_own how3
  go_wp2_with fail
  refine (toMoveS_c xs1 v1 _ (hx1.below Bw3) hl1).mono ?_
  rintro e w4 ⟨uw4, rfl, how4, Hw4⟩
  have Bw4 : Below w.heap.size w w4 := Bw3.trans (Hw4.mono Zw3)
  have Zw4 := Bw4.size
  have Rw4 : RdM w4 uw4 xs1 := Rd.of_own how4
  have Rw3x : RdS w4 uw3 xs0 := Rw3.below Hw4
  go_wp2_with fail
  refine (spIsRightFor_c xs0 xs1 uw3 uw4 s2 (by omega) _ Rw3x Rw4 hz1 hl1).mono ?_
  rintro e w5 ⟨rfl, Hw5⟩
  have Bw5 : Below w.heap.size w w5 := Bw4.trans (Hw5.mono Zw4)
  have Zw5 := Bw5.size
  go_wp2_with fail
  refine (toStepS_c xs0 v0 _ (hx0.below Bw5) hl0).mono ?_
  rintro e w6 ⟨uw6, rfl, how6, Hw6⟩
  have Bw6 : Below w.heap.size w w6 := Bw5.trans (Hw6.mono Zw5)
  have Zw6 := Bw6.size
  have Rw6 : RdS w6 uw6 xs0 := Rd.of_own how6
  go_wp2_with fail
  refine (toMoveS_c xs1 v1 _ (hx1.below Bw6) hl1).mono ?_
  rintro e w7 ⟨uw7, rfl, how7, Hw7⟩
  have Bw7 : Below w.heap.size w w7 := Bw6.trans (Hw7.mono Zw6)
  have Zw7 := Bw7.size
  have Rw7 : RdM w7 uw7 xs1 := Rd.of_own how7
  have Rw6x : RdS w7 uw6 xs0 := Rw6.below Hw7
  go_wp2_with fail
  refine (imIsRightFor_c xs0 xs1 uw6 uw7 s2 (by omega) _ Rw6x Rw7 (hG.below Bw7)).mono ?_
  rintro e w8 ⟨rfl, Hw8⟩
  have Bw8 : Below w.heap.size w w8 := Bw7.trans (Hw8.mono Zw7)
  have Zw8 := Bw8.size
  have Q0 : RdS w8 uw6 xs0 := Rw6x.below Hw8
  have Q1 : RdM w8 uw7 xs1 := Rw7.below Hw8
  go_wp2_with fail
  refine (toStepS_c xs0 v0 _ (hx0.below Bw8) hl0).mono ?_
  rintro e w9 ⟨uw9, rfl, how9, Hw9⟩
  have Bw9 : Below w.heap.size w w9 := Bw8.trans (Hw9.mono Zw8)
  have Zw9 := Bw9.size
  have Rw9 : RdS w9 uw9 xs0 := Rd.of_own how9
  go_wp2_with fail
  refine (eqStepS_c xs0 xs0 uw6 uw9 _ (Q0.below Hw9) Rw9).mono ?_
  rintro e w10 ⟨he0, Hw10⟩
  rw [show decide (xs0 = xs0) = true by simp] at he0
  subst he0
  have Bw10 : Below w.heap.size w w10 := Bw9.trans (Hw10.mono Zw9)
  have Zw10 := Bw10.size
  replace Q1 := (Q1.below Hw9).below Hw10
  go_wp2_with fail
  refine (toMoveS_c xs1 v1 _ (hx1.below Bw10) hl1).mono ?_
  rintro e w11 ⟨uw11, rfl, how11, Hw11⟩
  have Bw11 : Below w.heap.size w w11 := Bw10.trans (Hw11.mono Zw10)
  have Zw11 := Bw11.size
  have Rw11 : RdM w11 uw11 xs1 := Rd.of_own how11
  go_wp2_with fail
  refine (eqMoveS_c xs1 xs1 uw7 uw11 _ (Q1.below Hw11) Rw11).mono ?_
  rintro e w12 ⟨he1, Hw12⟩
  rw [show decide (xs1 = xs1) = true by simp] at he1
  subst he1
  have Bw12 : Below w.heap.size w w12 := Bw11.trans (Hw12.mono Zw11)
  have Zw12 := Bw12.size
  go_wp2
  go_ret
  exact ⟨rfl, Bw12⟩

namespace fnExactIsRightFor
open Go.RowKit Go.PM Go.ChangeShapes Go.WideShapes Go.ChangeAt
open Go.ChangeMaps (open_string shut_string)
set_option maxRecDepth 100000 in
theorem lifted (os : Os) (started : os.Started) (H : Type) (enc : TypeId × Value → H) :
    ReturnsInHanded {} Tryd.checked os 10 .any (fun w args => (Rows.fnExactIsRightForSpec.pre enc Tryd.prog Tryd.f10 [] false w args ∧ laidMetH Tryd.prog laidL w) ∧ sizedMet enc Tryd.prog Tryd.f10 (OpenSpec.ofChange Rows.fnExactIsRightForSpec) false w args)
      (Rows.fnExactIsRightForSpec.post enc Tryd.prog Tryd.f10 false true false false) := by
  refine returnsInHanded_of_change_and (C := Tryd.checked) (X := fun w _ => laidMetH Tryd.prog laidL w) (fun _ _ _ hh h => h.of_heap hh) own started (by kernel_rfl) Tryd.func10
    (ChangeSpec.witness_at (enc := enc) (C := Tryd.checked) (os := os) (X := fun w _ => laidMetH Tryd.prog laidL w) false (laidWorld os) #[.slice none 0 0, .slice none 0 0, .string ⟨#[]⟩] 8 rfl (by kernel_rfl) (by kernel_rfl) (by kernel_rfl) (by kernel_rfl) (by kernel_rfl) (laidWorld_met os _)) ?_
  intro W base args ds gs before hval0 hW _ _ hL _
  have hval : ∀ (j : Nat) t v, Tryd.f10.params[j]? = some t → args[j]? = some v → Value.okWide Tryd.prog W .any base t v := hval0
  have hW' := hW
  obtain ⟨p, q, hA0, hV, rfl, hfz, hnd⟩ := hW
  have hA : DataW.TrodAll enc Tryd.prog W 0 (fun _ => true) true Tryd.f10.params.toList args.toList ds p := hA0
  rw [Tryd.params10] at hA hval
  obtain ⟨v0, vs0, d0, ds0, p0, q0, hargs, rfl, rfl, h0, r0⟩ := trodAll_cons hA
  obtain ⟨v1, vs1, d1, ds1, p1, q1, rfl, rfl, rfl, h1, r1⟩ := trodAll_cons r0
  obtain ⟨v2, vs2, d2, ds2, p2, q2, rfl, rfl, rfl, h2, r2⟩ := trodAll_cons r1
  obtain ⟨rfl, rfl, rfl⟩ := trodAll_nil r2
  obtain rfl : args = #[v0, v1, v2] := by cases args; simp_all
  obtain ⟨rfl, rfl⟩ := trodVars_none hV
  have hG := tz_of_laid hL
  have k0 := h0
  have lt0 : ∀ x ∈ p0, x.block < W.heap.size := by obtain ⟨m, hm⟩ := k0; exact DataW.trod_lt m _ _ _ hm
  have k1 := h1
  have lt1 : ∀ x ∈ p1, x.block < W.heap.size := by obtain ⟨m, hm⟩ := k1; exact DataW.trod_lt m _ _ _ hm
  have k2 := h2
  have lt2 : ∀ x ∈ p2, x.block < W.heap.size := by obtain ⟨m, hm⟩ := k2; exact DataW.trod_lt m _ _ _ hm
  obtain ⟨a0, len0, cap0, rfl⟩ := okWide_slice Tryd.underlying52 (hval 0 52 v0 rfl rfl)
  obtain ⟨xs0, hx0, hz0⟩ : ∃ xs : List St, RdS W (.slice a0 len0 cap0) xs ∧ ∀ m ∈ xs, m.2.1.size ≤ 9223372036854775807 ∧ m.2.2.size ≤ 9223372036854775807 := by obtain ⟨fuel, hf⟩ := h0; exact open_steps hf
  obtain ⟨a1, len1, cap1, rfl⟩ := okWide_slice Tryd.underlying41 (hval 1 41 v1 rfl rfl)
  obtain ⟨xs1, hx1, hz1⟩ : ∃ xs : List Mv, RdM W (.slice a1 len1 cap1) xs ∧ ∀ m ∈ xs, m.1.size ≤ 9223372036854775807 ∧ m.2.size ≤ 9223372036854775807 := by obtain ⟨fuel, hf⟩ := h1; exact open_moves hf
  obtain ⟨s2, rfl, _, _, hs2⟩ := open_string Tryd.underlying9 (hval 2 9 v2 rfl rfl) h2
  clear hA0 hval0
  refine (exIsRightFor W xs0 _ hx0 hz0 xs1 _ hx1 hz1 s2 hs2 hG).mono fun e W' ⟨he, bel⟩ => ?_
  subst he
  exact ⟨_, rfl, _, _, _, [], _, [], hW', trodAll_mk1 (shut_bool Tryd.underlying4 _), (trodAll_cons_mk (Below.trod laidOut (by kernel_rfl) (of_decide_eq_true (by kernel_rfl)) k0 bel lt0) (trodAll_cons_mk (Below.trod laidOut (by kernel_rfl) (of_decide_eq_true (by kernel_rfl)) k1 bel lt1) (trodAll_cons_mk (Below.trod laidOut (by kernel_rfl) (of_decide_eq_true (by kernel_rfl)) k2 bel lt2) trodAll_mk0))), rfl, bel.frame _, fun h => by cases h⟩

theorem over : Rows.fnExactIsRightForRow.holds Tryd.pinned (OpenSpec.ofChange Rows.fnExactIsRightForSpec) :=
  OpenClaim.holds_of_wide 10 Tryd.f10 rfl rfl rfl rfl rfl rfl rfl ⟨rfl, rfl, rfl, rfl, rfl⟩ rfl rfl rfl rfl rfl (by kernel_rfl) Tryd.func10 (by kernel_rfl)
    (of_decide_eq_true (by kernel_rfl)) (by unfold Func.isWrapper; first | (rw [if_pos (by decide +kernel)]; kernel_rfl) | (rw [if_neg (by decide +kernel)]; exact ⟨rfl, rfl⟩))
    (fun os started H enc _ => lifted os started H enc)

/-- The statement. -/
theorem proved : Rows.FnExactIsRightForCardSaid :=
  Claim7.holds_tied_plain_at .later [] [.data, .data] true Rows.fnExactIsRightForCard.stood.harness false
    over (fun _ h => by cases h) (by kernel_rfl) (fun _ h => by cases h) fnExactIsRightFor_row_tie rfl ⟨rfl, rfl⟩ (by kernel_rfl) rfl
    (fun f fn hf hfn => by
      obtain rfl : f = 10 := Option.some.inj ((show Tryd.prog.funcNamed "loop.example/parallelmoves/laws.FnExactIsRightFor" = some 10 by kernel_rfl).symm.trans hf) |>.symm
      obtain rfl : fn = Tryd.f10 := (Option.some.inj (Tryd.func10.symm.trans hfn)).symm
      exact ⟨by kernel_rfl, fun j t ht => by
        rw [Tryd.params10] at ht
        rcases j with _ | _ | _ | j
        · obtain rfl : t = 52 := by simpa using ht.symm
          exact (show Tryd.prog.wantsStandIn 52 = false by kernel_rfl)
        · obtain rfl : t = 41 := by simpa using ht.symm
          exact (show Tryd.prog.wantsStandIn 41 = false by kernel_rfl)
        · obtain rfl : t = 9 := by simpa using ht.symm
          exact (show Tryd.prog.wantsStandIn 9 = false by kernel_rfl)
        · simp at ht⟩)
    (by kernel_rfl)
end fnExactIsRightFor
end Go.Proofs.YtplapaojgcloaaaDoor
