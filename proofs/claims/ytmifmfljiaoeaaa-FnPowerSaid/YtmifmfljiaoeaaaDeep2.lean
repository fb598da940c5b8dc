import Derived.Test.YtmifmfljiaoeaaaDeep
namespace Go.Proofs.Ytmifmfljiaoeaaa
open Go.RowKit Go.PM Go.PW Go.Lib

set_option maxRecDepth 100000 in
set_option maxHeartbeats 1600000 in
theorem spDepthOf_c (xs : List Mv) (v : Value) (a : ByteArray) (w : World) (hx : RdM w v xs) (hz : ∀ m ∈ xs, m.1.size ≤ 9223372036854775807 ∧ m.2.size ≤ 9223372036854775807) (hn' : xs.length ≤ 1048576) :
    Calls Try.prog 64 #[v, .string a] w fun e w' => e = .returned (.int .i64 (depthI xs a)) ∧ Below w.heap.size w w' := by
  have HO : Hid (depthI xs a = if mvalid xs && isP a then (depN (nxT (tabOf xs)) (pidx a) : Int) else -1) := rfl
  rcases Bool.eq_false_or_eq_true (mvalid xs) with h1 | h1
  · have HX := Lib.hid (fun W (hW : Below w.heap.size w W) => hx.below hW)
    rcases Bool.eq_false_or_eq_true (isP a) with h2 | h2
    · have hmv : MV xs := by simpa [mvalid] using h1
      have hf := SV_tab hmv
      have hs : pidx a < 19 := by have := (pidx_spec h2).1; omega
      have hst := depN_stops (nice hf) hs
      have hpa : isP (sn (pidx a)) = true := by rw [← isP_sn h2]; exact h2
      rw [h1, h2] at HO
      have hsn := isP_sn h2
      generalize hs0 : pidx a = s0 at *
      subst hsn
      generalize hD : depN (nxT (tabOf xs)) s0 = D at *
      have HST := Lib.hid hst
      have hD19 := hst.lt
      have HL := Lib.hid (fun k i (h : orb (nxT (tabOf xs)) s0 k = some i) => orb_lt (nice hf) hs k i h)
      have HRG := Lib.hid (fun i (hi : i < 19) W (hW : RdM W v xs) => l3Ring_c xs hmv v i hi W hW)
      have HSS := Lib.hid (fun i (hi : i < 9) W (hW : RdM W v xs) => show Calls Try.prog 74 #[v, .string (sn i)] W fun e w' => e = .returned (.string (sn (sx (tabOf xs) i))) ∧ Below W.heap.size W w' from by
        have := l1Source_c xs v (sn i) W hW
        rwa [sn_nm i hi, ← srcM_nm hmv hi, ← (sx_lt hf hi).2, ← sn_nm i hi] at this)
      have HNO := Lib.hid (fun i (hi : i < 19) (h : ¬ OnR (nxT (tabOf xs)) i) => show ringL (nxT (tabOf xs)) i = [] by
        rw [ringL, if_neg]; exact fun h2 => h ((onRb_iff (nice hf) hi).1 h2))
      have HYES := Lib.hid (fun i (hi : i < 19) (h : OnR (nxT (tabOf xs)) i) => show 0 < (ringL (nxT (tabOf xs)) i).length by
        rw [ringL, if_pos ((onRb_iff (nice hf) hi).2 h)]; exact (way_rho (nice hf) hi).pos)
      have HSX := Lib.hid (fun i (hi : i < 9) => (sx_lt hf hi).1)
      have HO2 := Lib.hid (show ∀ k, orb (nxT (tabOf xs)) s0 (k + 1) = (orb (nxT (tabOf xs)) s0 k).bind (nxT (tabOf xs)) from fun _ => rfl)
      have HZ : Hid (orb (nxT (tabOf xs)) s0 0 = some s0) := rfl
      have HLOW := Lib.hid (nice hf).low
      have HPL0 := Lib.hid (fun i (hi : i < 19) W => show Calls Try.prog 86 #[.string (sn i)] W fun e w' => e = .returned (.bool (decide (i < 9))) ∧ W = w' from by
        have := l1Place_c (sn i) W
        rwa [(ch_all i hi).2.2.1] at this)
      have HPA1 := Lib.hid (fun W => show Calls Try.prog 86 #[.string (sn s0)] W fun e w' => e = .returned (.bool true) ∧ W = w' from by have := l1Place_c (sn s0) W; rwa [hpa] at this)
      have HMV : Hid (mvalid xs = true) := h1
      clear hf hst hD hs0 hmv h1 h2 hpa
      go_enter Try.func64, Try.ntmps64
      go_wp2_with fail
      refine (spMovesValid_c xs v _ hx hz hn').mono ?_
      rintro e w1 ⟨he, hb1⟩
      rw [show mvalid xs = true from HMV.out] at he
      subst he
      have hs1 := hb1.size
      go_wp2_with (go_at_call 86; refine (HPA1.out _).mono ?_; rintro e w' ⟨rfl, rfl⟩)
      go_loopw [1, 5] (fun p o wr => ∃ (j x : Nat), j ≤ D ∧ o = .int .i64 j ∧ p = .string (sn x) ∧ Hid (orb (nxT (tabOf xs)) s0 j = some x) ∧ Below w.heap.size w wr) (fun _ o _ => D - (RowKit.intOf o).toNat)
      case atStart => exact ⟨0, s0, by omega, rfl, rfl, HZ, hb1⟩
      case round =>
        obtain ⟨j, x, hj, rfl, rfl, hox, hb⟩ := hrel
        have hbs := hb.size
        have hxl := HL.out _ _ hox.out
        have HPL := Lib.hid (HPL0.out x hxl)
        by_cases hjD : j < D
        · obtain ⟨x', t, e1, e2, e3⟩ := HST.out.before j hjD
          rw [hox.out] at e1
          cases e1
          have h9 := HLOW.out _ _ e2
          have hsx : sx (tabOf xs) x = t ∧ x ≠ t := by
            by_cases e : sx (tabOf xs) x = x
            · rw [nxT_stay h9 e] at e2; cases e2
            · rw [nxT_some h9 e, Option.some.injEq] at e2
              exact ⟨e2, fun e4 => e (by rw [e2, e4])⟩
          have HN : Hid (orb (nxT (tabOf xs)) s0 (j + 1) = some t) := by show _ = _; rw [HO2.out, hox.out]; exact e2
          have hr := HNO.out x hxl e3
          have htl := HSX.out x h9
          have hrg := HRG.out x hxl
          rw [hr] at hrg
          have HRGx := Lib.hid hrg
          have hss := HSS.out x h9
          rw [hsx.1] at hss htl
          have HSSx := Lib.hid hss
          have hb0 : ((sn t).toList == (sn x).toList) = false := by
            rw [beq_str, decide_eq_false_iff_not]; exact fun e => hsx.2 (sn_inj htl hxl e).symm
          rw [show decide (x < 9) = true by simpa using h9] at HPL
          have hxr := HX.out _ hb
          clear hrg hss hr e2 e3 hox hsx
          go_wp2_with (go_at_call 86; refine (HPL.out _).mono ?_; rintro e w' ⟨rfl, rfl⟩)
          refine (HRGx.out _ hxr).mono ?_
          rintro e w2 ⟨rfl, hb2⟩
          have hbw2 := hb.trans (hb2.mono hbs)
          have hbs2 := hbw2.size
          have hxr2 := HX.out _ hbw2
          clear hb2
          rw [show txt [] = ⟨#[]⟩ from rfl]
          go_wp2_with fail
          refine (HSSx.out _ hxr2).mono ?_
          rintro e w3 ⟨rfl, hb3⟩
          have hbw3 := hbw2.trans (hb3.mono hbs2)
          have hbs3 := hbw3.size
          have hxr3 := HX.out _ hbw3
          clear hb3
          go_wp2_with fail
          refine (HSSx.out _ hxr3).mono ?_
          rintro e w4 ⟨rfl, hb4⟩
          have hbw4 := hbw3.trans (hb4.mono hbs3)
          clear hb4
          go_wp2
          go_roundw
          case rel => exact ⟨j + 1, t, by omega, by go_num, rfl, HN, hbw4⟩
          case measure => simp [RowKit.intOf]; omega
        · have hjD : j = D := by omega
          subst hjD
          obtain ⟨x', e1, e2⟩ := HST.out.at_
          rw [hox.out] at e1
          cases e1
          by_cases h9 : x < 9
          · rw [show decide (x < 9) = true by simpa using h9] at HPL
            have hxr := HX.out _ hb
            by_cases hon : OnR (nxT (tabOf xs)) x
            · have hpos := HYES.out x hxl hon
              have hrg := HRG.out x hxl
              have hsz := txt_size (ringL (nxT (tabOf xs)) x)
              generalize txt (ringL (nxT (tabOf xs)) x) = t at *
              have hne : t.toList.isEmpty = false := by
                rw [ByteArray.toList_eq]
                cases hl : t.data.toList with
                | nil => have := size_data t; rw [hl] at this; simp at this; omega
                | cons a l => rfl
              have HRGx := Lib.hid hrg
              clear hrg e2 hox hpos hsz
              go_wp2_with (go_at_call 86; refine (HPL.out _).mono ?_; rintro e w' ⟨rfl, rfl⟩)
              refine (HRGx.out _ hxr).mono ?_
              rintro e w2 ⟨rfl, hb2⟩
              have hbw2 := hb.trans (hb2.mono hbs)
              clear hb2
              go_wp2
              go_ret
              exact ⟨by rw [HO.out]; rfl, hbw2⟩
            · have hnn := e2.resolve_right hon
              have hsx : sx (tabOf xs) x = x := by
                by_cases e : sx (tabOf xs) x = x
                · exact e
                · rw [nxT_some h9 e] at hnn; cases hnn
              have hr := HNO.out x hxl hon
              have hrg := HRG.out x hxl
              rw [hr] at hrg
              have HRGx := Lib.hid hrg
              have hss := HSS.out x h9
              rw [hsx] at hss
              have HSSx := Lib.hid hss
              have hb0 : ((sn x).toList == (sn x).toList) = true := by simp
              clear hrg hss hr e2 hox hsx hnn hon
              go_wp2_with (go_at_call 86; refine (HPL.out _).mono ?_; rintro e w' ⟨rfl, rfl⟩)
              refine (HRGx.out _ hxr).mono ?_
              rintro e w2 ⟨rfl, hb2⟩
              have hbw2 := hb.trans (hb2.mono hbs)
              have hbs2 := hbw2.size
              have hxr2 := HX.out _ hbw2
              clear hb2
              rw [show txt [] = ⟨#[]⟩ from rfl]
              go_wp2_with fail
              refine (HSSx.out _ hxr2).mono ?_
              rintro e w3 ⟨rfl, hb3⟩
              have hbw3 := hbw2.trans (hb3.mono hbs2)
              clear hb3
              go_wp2
              go_ret
              exact ⟨by rw [HO.out]; rfl, hbw3⟩
          · rw [show decide (x < 9) = false by simpa using h9] at HPL
            clear e2 hox
            go_wp2_with (go_at_call 86; refine (HPL.out _).mono ?_; rintro e w' ⟨rfl, rfl⟩)
            go_ret
            exact ⟨by rw [HO.out]; rfl, hb⟩
    · rw [h1, h2] at HO
      go_enter Try.func64, Try.ntmps64
      go_wp2_with fail
      refine (spMovesValid_c xs v _ hx hz hn').mono ?_
      rintro e w1 ⟨rfl, hb1⟩
      go_wp2_with (go_at_call 86; refine (l1Place_c _ _).mono ?_; rintro e w' ⟨rfl, rfl⟩)
      go_ret
      exact ⟨by rw [HO.out]; rfl, hb1⟩
  · rw [h1] at HO
    go_enter Try.func64, Try.ntmps64
    go_wp2_with fail
    refine (spMovesValid_c xs v _ hx hz hn').mono ?_
    rintro e w1 ⟨rfl, hb1⟩
    go_wp2
    go_ret
    exact ⟨by rw [HO.out]; rfl, hb1⟩
end Go.Proofs.Ytmifmfljiaoeaaa
