import Derived.Test.YtmifmfljiaoeaabWheelI
import Derived.Test.YtmifmfljiaoeaabWheelsS
import Derived.Test.YtmifmfljiaoeaabRingsI
namespace Go.Proofs.Ytmifmfljiaoeaab
open Go.RowKit Go.PM Go.PW Go.Lib
attribute [local go_sem] Oper.semAt_some

theorem slPrefix_c (t : ByteArray) (c d : UInt8) (h : t.extract 0 1 = ⟨#[d]⟩) (hz : 1 ≤ t.size) (w : World) :
    Calls Try.prog 122 #[.string t, .string ⟨#[c]⟩] w fun e w' => e = .returned (.bool (decide (d = c))) ∧ w = w' := by
  have hc1 : (⟨#[c]⟩ : ByteArray).size = 1 := rfl
  have hz1 : (1 : Int) ≤ (t.size : Int) := by omega
  by_cases e : d = c
  · subst e
    have hb : ((⟨#[d]⟩ : ByteArray).toList == (⟨#[d]⟩ : ByteArray).toList) = true := by simp
    go_enter Try.func122, Try.ntmps122
    go_wp2
    go_ret
    exact ⟨by simp, rfl⟩
  · have hb : ((⟨#[d]⟩ : ByteArray).toList == (⟨#[c]⟩ : ByteArray).toList) = false := by
      rw [beq_str, decide_eq_false_iff_not]
      intro e2
      apply e
      have := congrArg (fun s => s.data.toList) e2
      simpa using this
    have HE := Lib.hid e
    clear e
    go_enter Try.func122, Try.ntmps122
    go_wp2
    go_ret
    exact ⟨by simp [HE.out], rfl⟩
theorem hasPrefix_c (t : ByteArray) (c d : UInt8) (h : t.extract 0 1 = ⟨#[d]⟩) (hz : 1 ≤ t.size) (w : World) :
    Calls Try.prog 81 #[.string t, .string ⟨#[c]⟩] w fun e w' => e = .returned (.bool (decide (d = c))) ∧ w = w' := by
  have HP := Lib.hid (fun W => slPrefix_c t c d h hz W)
  clear h hz
  go_enter Try.func81, Try.ntmps81
  go_wp2_with (go_at_call 122; refine (HP.out _).mono ?_; rintro e w' ⟨rfl, rfl⟩)
  go_ret
  exact ⟨rfl, rfl⟩
set_option maxRecDepth 100000 in
set_option maxHeartbeats 2000000 in
theorem imWheelsOf_c (xs : List Mv) (v : Value) (w : World) (hx : RdM w v xs) :
    Calls Try.prog 35 #[v] w fun e w' => ∃ v', e = .returned (.tuple #[v', .bool (mvalid xs)]) ∧ w'.ownsRow w.heap.size 9 1 v' (wheelsB xs).length (tcells (wheelsB xs)) ∧ Below w.heap.size w w' := by
  by_cases h1 : MV xs
  · have HT := Lib.hid (tableOf_yes xs h1 v w hx)
    have hm1 : mvalid xs = true := by simpa [mvalid] using h1
    have HM := Lib.hid hm1
    have HS := Lib.hid (show wheelsB xs = wheelsT (tabOf xs) 9 from if_pos hm1)
    have HSP := Lib.hid (fun W => wheelsIn_c (tabOf xs) (SV_tab h1) W)
    have HWT : Hid (∀ k, wheelsT (tabOf xs) k = (wheelsF (tabOf xs) k).map txt) := fun _ => rfl
    have HNW : Hid (∀ p, namesW (fun q => decide (hdF (tabOf xs) 9 q = hdF (tabOf xs) 9 p)) = txt (wheelL (tabOf xs) p)) := fun _ => namesW_txt _
    clear h1 hx hm1
    generalize tabOf xs = t at *
    refine (callsIn_wide (n := 5)).1 ?_
    refine callsIn_of_wp_marks Try.func35 rfl trivial ?_ rfl
    simp only [Try.ntmps35, List.size_toArray, List.length_cons, List.length_nil, Nat.reduceAdd, Nat.reduceSub, Array.replicate_succ, Array.replicate_zero, List.push_toArray, List.append_toArray, List.nil_append, List.cons_append]
    gi_wp2_with fail
    refine ⟨trivial, callsIn_wide.2 (HT.out.mono ?_)⟩
    rintro e w1 ⟨rfl, hb1⟩
    have hs1 := hb1.size
    gi_wp2_with fail
    refine ⟨trivial, callsIn_wide.2 ((HSP.out _).mono ?_)⟩
    rintro e w2 ⟨⟨b, g, dp, rfl, hbge, hA, hF⟩, hb2⟩
    have hb12 := (hb1.alloc hs1 (.cells (tabA t) 66)).trans (hb2.mono (by simp; omega))
    have hs2 := hb12.size
    have hAl := hA.lt
    clear hb2 hb1
    gi_wp2
    obtain ⟨W0, hW0⟩ : ∃ W0 : World, W0 = (w2.alloc (.cells #[.pointer (some ⟨b, 0, none⟩)] 90)).alloc (.cells #[.slice none 0 0] 46) := ⟨_, rfl⟩
    have hS0 : W0.heap.size = w2.heap.size + 2 := by rw [hW0]; simp only [World.size_alloc]
    have hB0 : Below w.heap.size w W0 := by rw [hW0]; (repeat' (first | (with_reducible exact Below.refl _ _) | (with_reducible assumption) | (with_reducible refine Below.alloc ?_ ?_ _) | (with_reducible refine Below.drew ?_) | (with_reducible refine Below.setCell ?_ ?_ _) | (with_reducible exact Nat.le_refl _) | omega | ((repeat (first | rewrite [World.size_alloc] | rewrite [World.size_setCell] | rewrite [World.size_drew])); omega) | (simp; omega) | (simp; done)))
    have hA0 : At W0 b 134 (whA g) := by rw [hW0]; exact (hA.alloc _).alloc _
    have hP0 : At W0 w2.heap.size 90 #[.pointer (some ⟨b, 0, none⟩)] := by rw [hW0]; exact (At.new _ _ _).alloc _
    have hO0 : At W0 (w2.heap.size + 1) 46 #[.slice none 0 0] := by
      rw [hW0]; have := At.new (w2.alloc (.cells #[.pointer (some ⟨b, 0, none⟩)] 90)) 46 #[.slice none 0 0]
      rwa [World.size_alloc] at this
    have HWC := Lib.hid (fun (p : Nat) (hp : p < 9) (W : World) (hW : At W b 134 (whA g)) => show Calls Try.prog 80 #[.pointer (some ⟨b, 0, none⟩), .int .i64 p] W fun e w' => e = .returned (.string (txt (wheelL t p))) ∧ Below W.heap.size W w' from by
      have := wheel_c b g _ dp hF p hp W hW
      rwa [HNW.out] at this)
    rw [← hW0]
    clear hW0 hF hA
    refine range_law (F := Fence.wide) (gf := 79) (lf := #[.int .i64 9]) (lb := #[]) rfl (by decide) rfl trivial (fun args w => rfl) (encs := fun p : Nat => #[.int .i64 p]) (xs := List.range 9)
      (below_iter _ _ trivial rfl (by decide)) (fun _ => rfl)
      (fun pre W => ∃ o, At W (w2.heap.size + 1) 46 #[o] ∧ W.ownsRow (W0.heap.size + 2) 9 1 o (wheelsT t pre.length).length (tcells (wheelsT t pre.length)) ∧ At W b 134 (whA g) ∧ At W w2.heap.size 90 #[.pointer (some ⟨b, 0, none⟩)] ∧ Below w.heap.size w W)
      (fun _ _ _ => False) ?own (fun _ => ownFrom_pure _ _) ?start ?a1 ?assign ?body ?done ?stop
    case own =>
      rintro s A A' row ⟨o, k1, k2, k3, k4, k5⟩ hg hr
      exact ⟨o, at_turn' k1 hg (fun r e => (hr r e).2), own_turn' k2 hg (fun r e => (hr r e).2), at_turn' k3 hg (fun r e => (hr r e).2), at_turn' k4 hg (fun r e => (hr r e).2), k5.trans (below_grown hg k5.size (fun g e => by have := (hr g e).1; have := hB0.size; omega))⟩
    case start => exact ⟨_, hO0, ⟨rfl, .inl ⟨rfl, rfl⟩⟩, hA0, hP0, hB0⟩
    case assign =>
      intro l p W Kc hK
      gi_wp2
      exact hK
    case body =>
      clear hO0 hA0 hP0
      rintro l pre p W ⟨o, k1, k2, k3, k4, k5⟩ hp hsz
      obtain ⟨hpl, hp9⟩ := pre_len pre p hp
      rw [hpl] at k2
      have HPL : Hid ((pre ++ [p]).length = p + 1) := by show _ = _; simp [hpl]
      have HWP := Lib.hid (HWC.out p hp9 W k3)
      have hsz2 := txt_size (wheelL t p)
      have hwl := wheelL_len (f := t) p
      obtain ⟨h, hh, hle, hm⟩ := wheelL_head (f := t) hp9
      have hpos : 0 < (wheelL t p).length := List.length_pos_of_mem hm
      have HEXT : Hid ((txt (wheelL t p)).extract 0 1 = ⟨#[ch h]⟩) := by
        show _ = _
        rw [extract_one _ 0 (by omega), txt_list, List.getD_eq_getElem?_getD, List.getElem?_map]
        cases hwl2 : wheelL t p with
        | nil => rw [hwl2] at hm; cases hm
        | cons a l =>
          rw [hwl2] at hh
          simp at hh
          subst hh
          rfl
      have hpf := fun W => hasPrefix_c (txt (wheelL t p)) (ch p) (ch h) HEXT.out (by omega) W
      have hdd : decide (ch h = ch p) = decide (h = p) := by
        rw [decide_eq_decide]
        exact ⟨fun e => ch_inj (by omega) (by omega) e, fun e => by rw [e]⟩
      rw [hdd] at hpf
      have HPF := Lib.hid hpf
      have HNM := Lib.hid (fun W => name_c p hp9 W)
      have HNN : Hid (nm p = ⟨#[ch p]⟩) := (sn_nm p hp9).symm
      have HFW : Hid (firstW t p = decide (1 < (wheelL t p).length ∧ (wheelL t p).head? = some p)) := rfl
      have HY := Lib.hid (wheelsF_yes (f := t) (k := p))
      have HNO := Lib.hid (wheelsF_no (f := t) (k := p))
      have HHH := Lib.hid hh
      have hrl : (wheelsT t p).length ≤ 9 := by
        rw [HWT.out, List.length_map]
        have := wheelsF_len (f := t) p
        omega
      have c4 : W.cell? ⟨w2.heap.size, 0, none⟩ = some (.pointer (some ⟨b, 0, none⟩)) := k4.cell 0
      clear hpl hpf hdd hh hm HWC
      gi_wp2
      refine ⟨trivial, CallsIn.inRound l (callsIn_wide.2 (HWP.out.mono ?_))⟩
      rintro e W2 ⟨rfl, hb2⟩
      have hz2 := hb2.size
      have m1 := k1.keep hb2
      have m2 := own_keep k2 hb2
      have m3 := k3.keep hb2
      have m4 := k4.keep hb2
      have m5 := k5.trans (hb2.mono k5.size)
      have hkf := keepsFrom_below (B := W0.heap.size) hb2
      have hkn := (KeepsNew.below (B := W0.heap.size + 2) hb2).toIn (Nat.le_refl _) (show W0.heap.size + 2 + 0 ≤ W.heap.size by omega)
      clear k1 k2 k3 k4 k5 c4 hb2
      by_cases hone : 1 < (wheelL t p).length
      · by_cases hhp : h = p
        · have hfw : firstW t p = true := by rw [HFW.out, decide_eq_true_eq]; exact ⟨hone, by rw [HHH.out, hhp]⟩
          have HTX : Hid (wheelsT t (p + 1) = wheelsT t p ++ [txt (wheelL t p)]) := by show _ = _; rw [HWT.out, HWT.out, HY.out hfw]; simp
          have HPF2 : Hid (∀ W, Calls Try.prog 81 #[.string (txt (wheelL t p)), .string ⟨#[ch p]⟩] W fun e w' => e = .returned (.bool true) ∧ W = w') := by
            have := HPF.out
            rw [show decide (h = p) = true by simpa using hhp] at this
            exact this
          clear hfw hhp
          generalize txt (wheelL t p) = s at *
          generalize wheelsT t p = ys at *
          have hz1 : (1 : Int) < (s.size : Int) := by omega
          gi_wp2
          refine ⟨trivial, CallsIn.inRound l (callsIn_wide.2 ((HNM.out _).mono ?_))⟩
          rintro e wq ⟨rfl, rfl⟩
          rw [HNN.out]
          gi_wp2
          refine ⟨trivial, CallsIn.inRound l (callsIn_wide.2 ((HPF2.out _).mono ?_))⟩
          rintro e wq ⟨rfl, rfl⟩
          have c3 : W2.cell? ⟨w2.heap.size + 1, 0, none⟩ = some o := m1.cell 0
          have hl1 := m1.lt
          have hnw := one_new W2 (.string s) 9
          have hzw := hB0.size
          gi_wp2_with (gi_at_builtin; refine held ?_)
          unfold Held
          refine appIn_str rfl (.tmp 33) (.tmp 35) rfl (W0.heap.size + 2) o ys s ⟨W2.heap.size, 0, none⟩ 1 (by rfl) (by rfl) (own_keep m2 ((Below.refl _ _).alloc (Nat.le_refl _) _)) hnw (by omega) (by simp; omega) ?_
          intro o' W3 hown3 hgrow3
          have j1 : At W3 (w2.heap.size + 1) 46 #[o] := at_grown' (m1.alloc (.cells #[.string s] 9)) hgrow3 (own_box_ne' m2 m1 (by decide))
          have d1 := j1.cell 0
          have d2 := j1.frozen 0
          have hge := own_block_ge m2
          have hK3 : KeepsFrom W0.heap.size W2 W3 := by
            refine ⟨Nat.le_trans (by simp) hgrow3.size, fun x ob hx1 hx2 hx3 => ?_⟩
            have hx4 := (Array.getElem?_eq_some_iff.1 hx2).1
            refine (hgrow3.block x (by simp; omega) (fun e => ?_)).trans ((Below.heap_alloc _ _ _ hx4).trans hx2)
            rcases m2.2 with ⟨rfl, _⟩ | ⟨g, cap, cur, rfl, _, hh, _⟩
            · cases e
            · cases e
              rw [hh] at hx2
              cases hx2
              cases hx3
          have hg3s := hgrow3.size
          have hA3 : At W3 b 134 (whA g) := at_grown' (m3.alloc (.cells #[.string s] 9)) hgrow3 (fun e => by have := hge _ e.symm; omega)
          have hP3 : At W3 w2.heap.size 90 #[.pointer (some ⟨b, 0, none⟩)] := at_grown' (m4.alloc (.cells #[.string s] 9)) hgrow3 (fun e => by have := hge _ e.symm; omega)
          have hB3 : Below w.heap.size w W3 := (m5.alloc m5.size _).trans (below_grown hgrow3 (by have := m5.size; simp; omega) (fun g e => by have := hge g e; omega))
          have hne3 := own_box_ne' hown3 j1 (by decide)
          have hpn : (ys ++ [s]).length = ys.length + 1 := by simp
          rw [hpn] at hown3
          obtain ⟨A3, cap3, rfl, _⟩ := Rd.of_own hown3
          have q1 : At (W3.setCell ⟨w2.heap.size + 1, 0, none⟩ (.slice A3 (ys.length + 1) cap3)) (w2.heap.size + 1) 46 #[.slice A3 (ys.length + 1) cap3] := j1.set 0 _
          have qA := hA3.far (p := ⟨w2.heap.size + 1, 0, none⟩) (by show b ≠ w2.heap.size + 1; omega) (.slice A3 (ys.length + 1) cap3)
          have qP := hP3.far (p := ⟨w2.heap.size + 1, 0, none⟩) (by show w2.heap.size ≠ w2.heap.size + 1; omega) (.slice A3 (ys.length + 1) cap3)
          clear hnw c3 m1 m2 m3 m4 m5 hgrow3 hge
          gi_wp2
          refine ⟨(hkf.trans hK3).trans ((KeepsOthers.setCell _ _ _).from _), KeepsIn.zero (by simp [World.size_setCell] at *; omega), _, q1, ?_, qA, qP, hB3.setCell (by simp; omega) _⟩
          rw [HPL.out, HTX.out, hpn]
          exact hown3.kept (grownBy_setCell' W3 (w2.heap.size + 1) _) (.inr hne3.symm)
        · have hfw : firstW t p = false := by
            rw [HFW.out, decide_eq_false_iff_not]
            rintro ⟨_, h2⟩
            rw [HHH.out] at h2
            exact hhp (Option.some.inj h2)
          have HTX : Hid (wheelsT t (p + 1) = wheelsT t p) := by show _ = _; rw [HWT.out, HWT.out, HNO.out hfw]
          have HPF2 : Hid (∀ W, Calls Try.prog 81 #[.string (txt (wheelL t p)), .string ⟨#[ch p]⟩] W fun e w' => e = .returned (.bool false) ∧ W = w') := by
            have := HPF.out
            rw [show decide (h = p) = false by simpa using hhp] at this
            exact this
          clear hfw hhp
          generalize txt (wheelL t p) = s at *
          have hz1 : (1 : Int) < (s.size : Int) := by omega
          gi_wp2
          refine ⟨trivial, CallsIn.inRound l (callsIn_wide.2 ((HNM.out _).mono ?_))⟩
          rintro e wq ⟨rfl, rfl⟩
          rw [HNN.out]
          gi_wp2
          refine ⟨trivial, CallsIn.inRound l (callsIn_wide.2 ((HPF2.out _).mono ?_))⟩
          rintro e wq ⟨rfl, rfl⟩
          gi_wp2
          exact ⟨hkf, hkn, o, m1, by rw [HPL.out, HTX.out]; exact m2, m3, m4, m5⟩
      · have hfw : firstW t p = false := by
          rw [HFW.out, decide_eq_false_iff_not]
          rintro ⟨h1, _⟩; exact hone h1
        have HTX : Hid (wheelsT t (p + 1) = wheelsT t p) := by show _ = _; rw [HWT.out, HWT.out, HNO.out hfw]
        clear hfw
        generalize txt (wheelL t p) = s at *
        have hz1 : ¬ (1 : Int) < (s.size : Int) := by omega
        gi_wp2
        refine ⟨trivial, ?_⟩
        gi_wp2
        refine ⟨trivial, ?_⟩
        gi_wp2
        exact ⟨hkf, hkn, o, m1, by rw [HPL.out, HTX.out]; exact m2, m3, m4, m5⟩
    case done =>
      intro D W hD hI hd
      obtain ⟨o, k1, k2, k3, k4, k5⟩ := hI
      have c3 : W.cell? ⟨w2.heap.size + 1, 0, none⟩ = some o := k1.cell 0
      have hown := own_more k2 (show w.heap.size ≤ W0.heap.size + 2 by have := hB0.size; omega)
      have hzw := hB0.size
      clear k1 k2 k3 k4
      gi_wp2
      refine ⟨by simp, .inl ⟨D, _, rfl, run_takeDeferred hd, ?_⟩⟩
      have hW2 : (W.putObj D (.deferred none)).ownsRow w.heap.size 9 1 o (wheelsB xs).length (tcells (wheelsB xs)) := by
        rw [HS.out]
        exact own_turn' hown (grownBy_putObj' W D _) (fun r e => by cases e; exact ⟨_, hd, rfl⟩)
      have hR : ∀ tmps : Array Value, tmps.getD 2 undef = o → tmps.getD 3 undef = .bool true → (results Try.f35 tmps).run Try.prog (W.putObj D (.deferred none)) = .ok (.tuple #[o, .bool true]) (W.putObj D (.deferred none)) := fun tmps h2 h3 => by
        have h2' : tmps[2]?.getD undef = o := by simpa using h2
        have h3' : tmps[3]?.getD undef = .bool true := by simpa using h3
        simp [results, Try.results35, h2', h3']
      exact ⟨_, hR _ rfl rfl, _, by rw [HM.out], hW2, k5.trans ⟨rfl, rfl, rfl, by simp [World.putObj], fun k hk => World.putObj_heap_other (by have := k5.size; omega)⟩⟩
    case stop =>
      intro _ _ _ _ _ _ hf
      exact hf.elim
  · have hm0 : mvalid xs = false := by simpa [mvalid] using h1
    have HM := Lib.hid hm0
    have HS := Lib.hid (show wheelsB xs = [] from if_neg (by rw [hm0]; decide))
    have HT := Lib.hid (tableOf_no xs h1 v w hx)
    clear h1 hx hm0
    go_enter Try.func35, Try.ntmps35
    go_wp2_with fail
    refine HT.out.mono ?_
    rintro e w1 ⟨rfl, hb1⟩
    have hs1 := hb1.size
    go_wp2
    go_ret2
    exact ⟨_, by rw [HM.out]; rfl, by rw [HS.out]; exact ⟨rfl, .inl ⟨rfl, rfl⟩⟩, by (repeat' (first | (with_reducible exact Below.refl _ _) | (with_reducible assumption) | (with_reducible refine Below.alloc ?_ ?_ _) | (with_reducible refine Below.drew ?_) | (with_reducible refine Below.setCell ?_ ?_ _) | (with_reducible exact Nat.le_refl _) | omega | ((repeat (first | rewrite [World.size_alloc] | rewrite [World.size_setCell] | rewrite [World.size_drew])); omega) | (simp; omega) | (simp; done)))⟩
end Go.Proofs.Ytmifmfljiaoeaab
