import Derived.Test.YtmifmfljiaoeaabWheelS
namespace Go.Proofs.Ytmifmfljiaoeaab
open Go.RowKit Go.PM Go.PW Go.Lib

set_option maxRecDepth 100000 in
set_option maxHeartbeats 2000000 in
theorem l3Wheel_c (xs : List Mv) (h1 : MV xs) (v : Value) (p : Nat) (hp : p < 9) (w : World) (hx : RdM w v xs) :
    Calls Try.prog 83 #[v, .string (sn p)] w fun e w' => e = .returned (.string (txt (wheelL (tabOf xs) p))) ∧ Below w.heap.size w w' := by
  have hf := SV_tab h1
  have HX := Lib.hid (fun W (hW : Below w.heap.size w W) => hx.below hW)
  have HRD := Lib.hid (fun W (hW : RdM W v xs) (i : Nat) => show Calls Try.prog 85 #[v, .string (sn i)] W fun e w' => e = .returned (.string (txt ((List.range 9).filter (rdH (tabOf xs) (sn i))))) ∧ Below W.heap.size W w' from by
    have := l1Readers_c xs v (sn i) W hW
    rwa [rsH_rdH h1, namesW_txt] at this)
  have HSS := Lib.hid (fun i (hi : i < 9) W (hW : RdM W v xs) => show Calls Try.prog 73 #[v, .string (sn i)] W fun e w' => e = .returned (.string (sn (sx (tabOf xs) i))) ∧ Below W.heap.size W w' from by
    have := l1Source_c xs v (sn i) W hW
    rwa [sn_nm i hi, ← srcM_nm h1 hi, ← (sx_lt hf hi).2, ← sn_nm i hi] at this)
  have HSX := Lib.hid (fun i (hi : i < 9) => (sx_lt hf hi).1)
  have HPL := Lib.hid (fun i (hi : i < 19) W => show Calls Try.prog 62 #[.string (sn i)] W fun e w' => e = .returned (.bool (decide (i < 9))) ∧ W = w' from by
    have := l1Place_c (sn i) W
    rwa [(ch_all i hi).2.2.1] at this)
  have HNB : Hid (∀ q, nbL (tabOf xs) q = (List.range 9).filter (rdH (tabOf xs) (sn q)) ++ (if sx (tabOf xs) q < 9 then [sx (tabOf xs) q] else [])) := fun _ => rfl
  have HNL := Lib.hid (fun q => nbL_lt (f := tabOf xs) q)
  have HNN := Lib.hid (fun q => nbL_len (f := tabOf xs) q)
  have HNH := Lib.hid (fun q (hq : q < 9) => nbL_hd hf hq)
  have HNX := Lib.hid (fun l m i q (h : Comp (tabOf xs) p l i) hq hm hn => Comp.next hf h hq hm hn (m := m) (l := l) (i := i) (q := q))
  have HST := Lib.hid (Comp.start (tabOf xs) hp)
  have HALL := Lib.hid (fun l (h : Comp (tabOf xs) p l l.length) => wheel_all h)
  have HSO := Lib.hid (fun l hl hz W => l3Sorted_c l hl hz W)
  have HAD := Lib.hid (fun l m e (h : Part (tabOf xs) p l m) he hh hm => Part.add (e := e) h he hh hm)
  clear hf h1
  generalize tabOf xs = f at *
  go_enter Try.func83, Try.ntmps83
  go_wp2
  go_loopw [5, 6, 7, 8, 9] (fun o i _ _ _ wr => ∃ (l : List Nat) (k : Nat), k ≤ l.length ∧ i = .int .i64 k ∧ o = .string (txt l) ∧ Hid (Comp f p l k) ∧ Below w.heap.size w wr) (fun _ i _ _ _ _ => 9 - (RowKit.intOf i).toNat)
  case atStart => exact ⟨[p], 0, by simp, rfl, rfl, HST, Below.refl _ _⟩
  case round =>
    obtain ⟨l, k, hk, rfl, rfl, hC, hb⟩ := hrel
    have hbs := hb.size
    have hll := hC.out.part.len
    have hltz := txt_size l
    by_cases hlt : k < l.length
    · have hq9 := hC.out.lt l[k] (List.getElem_mem hlt)
      have hex : (txt l).extract k (k + 1) = sn l[k] := by
        rw [extract_one _ _ (by rw [hltz]; exact hlt), txt_list, List.getD_eq_getElem?_getD, List.getElem?_map, List.getElem?_eq_getElem hlt]; rfl
      have HQ := Lib.hid (List.getElem?_eq_getElem hlt)
      have HPT := Lib.hid hC.out.part
      generalize l[k] = q at *
      have hxr := HX.out _ hb
      have hrd := HRD.out _ hxr q
      have hnb := HNB.out q
      have hnl := HNL.out q
      have hnn := HNN.out q
      have hnh := HNH.out q hq9
      have hsx := HSX.out q hq9
      have hss := HSS.out q hq9
      have hpl := HPL.out _ hsx
      have htz2 := txt_size ((List.range 9).filter (rdH f (sn q)))
      generalize (List.range 9).filter (rdH f (sn q)) = rl at *
      generalize sx f q = j at *
      have HRX := Lib.hid hrd
      have HSSX := Lib.hid hss
      clear hrd hss
      have hone : (sn j).size = 1 := rfl
      generalize htl : txt l = t at *
      have hrl : rl.length ≤ 10 := by rw [hnb, List.length_append] at hnn; omega
      have hlz : t.size = l.length := hltz
      go_wp2_with fail
      refine HRX.out.mono ?_
      rintro e w2 ⟨rfl, hb2⟩
      have hbw2 := hb.trans (hb2.mono hbs)
      have hbs2 := hbw2.size
      have hxr2 := HX.out _ hbw2
      clear hb2
      go_wp2_with fail
      refine (HSSX.out _ hxr2).mono ?_
      rintro e w3 ⟨rfl, hb3⟩
      have hbw3 := hbw2.trans (hb3.mono hbs2)
      have hbs3 := hbw3.size
      clear hb3
      have htl0 : txt l = t := htl
      have hnl0 := hnl
      clear hnl
      by_cases hj9 : j < 9
      · rw [show decide (j < 9) = true by simpa using hj9] at hpl
        have HP := Lib.hid hpl
        rw [if_pos hj9] at hnb
        clear hpl
        obtain ⟨nl, hnl⟩ : ∃ nl, rl ++ [j] = nl := ⟨_, rfl⟩
        have hns : txt rl ++ sn j = txt nl := by rw [← hnl, txt_snoc]
        have hnlen : nl.length ≤ 11 := by rw [← hnl]; simp; omega
        generalize htr : txt rl = tr at *
        have HNBH := Lib.hid hnb
        go_wp2_with (go_at_call 62; refine (HP.out _).mono ?_; rintro e w' ⟨rfl, rfl⟩)
        have hnz := txt_size nl
        have hnz2 : (txt nl).size = nl.length := hnz
        have HEX2 : Hid (∀ j (hj : j < nl.length), (txt nl).extract j (j + 1) = sn nl[j]) := fun j hj => by
          rw [extract_one _ _ (by rw [hnz]; exact hj), txt_list, List.getD_eq_getElem?_getD, List.getElem?_map, List.getElem?_eq_getElem hj]; rfl
        have HIX2 : Hid (∀ j (hj : j < nl.length) (h : j < (txt nl).size), (txt nl)[j] = ch nl[j]) := fun j hj h => by
          show (txt nl).data[j]'h = _
          have : (txt nl).data.toList[j]? = some (ch nl[j]) := by rw [txt_list, List.getElem?_map, List.getElem?_eq_getElem hj]; rfl
          have h2 := List.getElem?_eq_some_iff.1 this
          obtain ⟨_, h3⟩ := h2
          simpa using h3
        have HTK : Hid (∀ j (hj : j < nl.length), nl.take (j + 1) = nl.take j ++ [nl[j]]) := fun j hj => take_snoc nl j hj
        have HNLM : Hid (∀ e ∈ nl, e < 9 ∧ hdF f 9 e = hdF f 9 p) := fun e he => by
          rw [← hnl] at he
          refine ⟨hnl0 e (by rw [hnb]; exact he), ?_⟩
          rw [hnh e (by rw [hnb]; exact he)]
          exact hC.out.in_ q (List.mem_of_getElem? HQ.out)
        have HFIN : Hid (∀ m, Part f p l m → (∀ e ∈ nl, e ∈ m) → Comp f p m (k + 1)) := fun m hm hn => HNX.out l m k q hC.out HQ.out hm (fun e he => hn e (by rw [← hnl, ← hnb]; exact he))
        have HALL2 : Hid (nl.take nl.length = nl) := List.take_length
        have HTS2 : Hid (∀ (m : List Nat) e, txt m ++ sn e = txt (m ++ [e])) := fun m e => (txt_snoc m e).symm
        generalize htn : txt nl = tn at *
        try rw [show tn.size = nl.length from hnz2]
        rename World => wo
        go_loopw [5, 9, 38] (fun o _ i W => ∃ (m : List Nat) (j2 : Nat), j2 ≤ nl.length ∧ i = .int .i64 j2 ∧ o = .string (txt m) ∧ Hid (Part f p l m ∧ ∀ e ∈ nl.take j2, e ∈ m) ∧ Below wo.heap.size wo W) (fun _ _ i _ => nl.length - (RowKit.intOf i).toNat)
        case atStart => exact ⟨l, 0, by omega, rfl, by rw [htl0], ⟨HPT.out, by simp⟩, Below.refl _ _⟩
        case round =>
          obtain ⟨m, j2, hj2, rfl, rfl, hP, hbi⟩ := hrel
          have hml := hP.out.1.len
          have hmz := txt_size m
          by_cases hjl : j2 < nl.length
          · have hex2 := HEX2.out j2 hjl
            have hix2 := HIX2.out j2 hjl
            have htk := HTK.out j2 hjl
            have hem := HNLM.out nl[j2] (List.getElem_mem hjl)
            have hmem := txt_mem (fun a ha => by have := hP.out.1.lt a ha; omega) (show nl[j2] < 19 by omega)
            have hone2 : (sn nl[j2]).size = 1 := rfl
            have HTK2 := Lib.hid htk
            have HEM := Lib.hid hem
            have HMM := Lib.hid hmem
            clear htk hem hmem
            generalize nl[j2] = e at *
            have hsz : (txt m).size ≤ 9223372036854775807 := by omega
            by_cases hin : e ∈ m
            · have hi0 : (0 : Int) ≤ indexByte (txt m).data.toList (ch e) := (indexByte_mem _ _).2 (HMM.out.2 hin)
              have HP2 : Hid (Part f p l m ∧ ∀ e2 ∈ nl.take (j2 + 1), e2 ∈ m) := ⟨hP.out.1, fun e2 he2 => by
                rw [HTK2.out, List.mem_append] at he2
                rcases he2 with he2 | he2
                · exact hP.out.2 e2 he2
                · simp at he2; rw [he2]; exact hin⟩
              clear hin hP
              generalize ch e = c at *
              generalize htm : txt m = tm at *
              go_wp2_with (go_at_call 64; refine (l13Find_c tm c _ hsz).mono ?_; rintro e' w' ⟨rfl, rfl⟩)
              go_roundw
              case rel =>
                exact ⟨m, j2 + 1, by omega, by go_num, by rw [htm], HP2, hbi⟩
              case measure => simp [RowKit.intOf]; omega
            · have hi0 : indexByte (txt m).data.toList (ch e) < 0 := by
                have h0 : ¬ (0 : Int) ≤ indexByte (txt m).data.toList (ch e) := fun h => hin (HMM.out.1 ((indexByte_mem _ _).1 h))
                omega
              have HP2 : Hid (Part f p l (m ++ [e]) ∧ ∀ e2 ∈ nl.take (j2 + 1), e2 ∈ m ++ [e]) := ⟨HAD.out l m e hP.out.1 HEM.out.1 HEM.out.2 hin, fun e2 he2 => by
                rw [HTK2.out, List.mem_append] at he2
                rw [List.mem_append]
                rcases he2 with he2 | he2
                · exact .inl (hP.out.2 e2 he2)
                · exact .inr he2⟩
              have HTM := Lib.hid (HTS2.out m e)
              clear hin hP
              generalize ch e = c at *
              generalize htm : txt m = tm at *
              go_wp2_with (go_at_call 64; refine (l13Find_c tm c _ hsz).mono ?_; rintro e' w' ⟨rfl, rfl⟩)
              go_roundw
              case rel => exact ⟨m ++ [e], j2 + 1, by omega, by go_num, by rw [← HTM.out], HP2, hbi⟩
              case measure => simp [RowKit.intOf]; omega
          · have hjn : j2 = nl.length := by omega
            subst hjn
            have hall := hP.out.2
            rw [HALL2.out] at hall
            have HC2 := Lib.hid (HFIN.out m hP.out.1 hall)
            have hbe := hbw3.trans (hbi.mono hbs3)
            have hpl := hP.out.1.pre.length_le
            clear hall
            go_wp2
            go_roundw
            case rel => exact ⟨m, k + 1, by omega, by go_num, rfl, HC2, hbe⟩
            case measure => simp [RowKit.intOf]; omega
      · rw [show decide (j < 9) = false by simpa using hj9] at hpl
        have HP := Lib.hid hpl
        rw [if_neg hj9, List.append_nil] at hnb
        clear hpl
        go_wp2_with (go_at_call 62; refine (HP.out _).mono ?_; rintro e w' ⟨rfl, rfl⟩)
        have hnz := txt_size rl
        have hnz2 : (txt rl).size = rl.length := hnz
        have HEX2 : Hid (∀ j (hj : j < rl.length), (txt rl).extract j (j + 1) = sn rl[j]) := fun j hj => by
          rw [extract_one _ _ (by rw [hnz]; exact hj), txt_list, List.getD_eq_getElem?_getD, List.getElem?_map, List.getElem?_eq_getElem hj]; rfl
        have HIX2 : Hid (∀ j (hj : j < rl.length) (h : j < (txt rl).size), (txt rl)[j] = ch rl[j]) := fun j hj h => by
          show (txt rl).data[j]'h = _
          have : (txt rl).data.toList[j]? = some (ch rl[j]) := by rw [txt_list, List.getElem?_map, List.getElem?_eq_getElem hj]; rfl
          have h2 := List.getElem?_eq_some_iff.1 this
          obtain ⟨_, h3⟩ := h2
          simpa using h3
        have HTK : Hid (∀ j (hj : j < rl.length), rl.take (j + 1) = rl.take j ++ [rl[j]]) := fun j hj => take_snoc rl j hj
        have HNLM : Hid (∀ e ∈ rl, e < 9 ∧ hdF f 9 e = hdF f 9 p) := fun e he => by
          skip
          refine ⟨hnl0 e (by rw [hnb]; exact he), ?_⟩
          rw [hnh e (by rw [hnb]; exact he)]
          exact hC.out.in_ q (List.mem_of_getElem? HQ.out)
        have HFIN : Hid (∀ m, Part f p l m → (∀ e ∈ rl, e ∈ m) → Comp f p m (k + 1)) := fun m hm hn => HNX.out l m k q hC.out HQ.out hm (fun e he => hn e (by rw [← hnb]; exact he))
        have HALL2 : Hid (rl.take rl.length = rl) := List.take_length
        have HTS2 : Hid (∀ (m : List Nat) e, txt m ++ sn e = txt (m ++ [e])) := fun m e => (txt_snoc m e).symm
        generalize htn : txt rl = tn at *
        try rw [show tn.size = rl.length from hnz2]
        rename World => wo
        go_loopw [5, 9, 38] (fun o _ i W => ∃ (m : List Nat) (j2 : Nat), j2 ≤ rl.length ∧ i = .int .i64 j2 ∧ o = .string (txt m) ∧ Hid (Part f p l m ∧ ∀ e ∈ rl.take j2, e ∈ m) ∧ Below wo.heap.size wo W) (fun _ _ i _ => rl.length - (RowKit.intOf i).toNat)
        case atStart => exact ⟨l, 0, by omega, rfl, by rw [htl0], ⟨HPT.out, by simp⟩, Below.refl _ _⟩
        case round =>
          obtain ⟨m, j2, hj2, rfl, rfl, hP, hbi⟩ := hrel
          have hml := hP.out.1.len
          have hmz := txt_size m
          by_cases hjl : j2 < rl.length
          · have hex2 := HEX2.out j2 hjl
            have hix2 := HIX2.out j2 hjl
            have htk := HTK.out j2 hjl
            have hem := HNLM.out rl[j2] (List.getElem_mem hjl)
            have hmem := txt_mem (fun a ha => by have := hP.out.1.lt a ha; omega) (show rl[j2] < 19 by omega)
            have hone2 : (sn rl[j2]).size = 1 := rfl
            have HTK2 := Lib.hid htk
            have HEM := Lib.hid hem
            have HMM := Lib.hid hmem
            clear htk hem hmem
            generalize rl[j2] = e at *
            have hsz : (txt m).size ≤ 9223372036854775807 := by omega
            by_cases hin : e ∈ m
            · have hi0 : (0 : Int) ≤ indexByte (txt m).data.toList (ch e) := (indexByte_mem _ _).2 (HMM.out.2 hin)
              have HP2 : Hid (Part f p l m ∧ ∀ e2 ∈ rl.take (j2 + 1), e2 ∈ m) := ⟨hP.out.1, fun e2 he2 => by
                rw [HTK2.out, List.mem_append] at he2
                rcases he2 with he2 | he2
                · exact hP.out.2 e2 he2
                · simp at he2; rw [he2]; exact hin⟩
              clear hin hP
              generalize ch e = c at *
              generalize htm : txt m = tm at *
              go_wp2_with (go_at_call 64; refine (l13Find_c tm c _ hsz).mono ?_; rintro e' w' ⟨rfl, rfl⟩)
              go_roundw
              case rel => exact ⟨m, j2 + 1, by omega, by go_num, by rw [htm], HP2, hbi⟩
              case measure => simp [RowKit.intOf]; omega
            · have hi0 : indexByte (txt m).data.toList (ch e) < 0 := by
                have h0 : ¬ (0 : Int) ≤ indexByte (txt m).data.toList (ch e) := fun h => hin (HMM.out.1 ((indexByte_mem _ _).1 h))
                omega
              have HP2 : Hid (Part f p l (m ++ [e]) ∧ ∀ e2 ∈ rl.take (j2 + 1), e2 ∈ m ++ [e]) := ⟨HAD.out l m e hP.out.1 HEM.out.1 HEM.out.2 hin, fun e2 he2 => by
                rw [HTK2.out, List.mem_append] at he2
                rw [List.mem_append]
                rcases he2 with he2 | he2
                · exact .inl (hP.out.2 e2 he2)
                · exact .inr he2⟩
              have HTM := Lib.hid (HTS2.out m e)
              clear hin hP
              generalize ch e = c at *
              generalize htm : txt m = tm at *
              go_wp2_with (go_at_call 64; refine (l13Find_c tm c _ hsz).mono ?_; rintro e' w' ⟨rfl, rfl⟩)
              go_roundw
              case rel => exact ⟨m ++ [e], j2 + 1, by omega, by go_num, by rw [← HTM.out], HP2, hbi⟩
              case measure => simp [RowKit.intOf]; omega
          · have hjn : j2 = rl.length := by omega
            subst hjn
            have hall := hP.out.2
            rw [HALL2.out] at hall
            have HC2 := Lib.hid (HFIN.out m hP.out.1 hall)
            have hbe := hbw3.trans (hbi.mono hbs3)
            have hpl := hP.out.1.pre.length_le
            clear hall
            go_wp2
            go_roundw
            case rel => exact ⟨m, k + 1, by omega, by go_num, rfl, HC2, hbe⟩
            case measure => simp [RowKit.intOf]; omega
    · have hk' : k = l.length := by omega
      have hcm := hC.out
      rw [hk'] at hcm
      have hal := HALL.out l hcm
      have hso := HSO.out l hcm.lt (by omega)
      rw [hal] at hso
      have HS := Lib.hid hso
      clear hso hal hcm hC
      generalize txt l = t at *
      go_wp2_with (go_at_call 123; refine (HS.out _).mono ?_; rintro e w' ⟨rfl, rfl⟩)
      go_ret
      exact ⟨rfl, hb⟩
end Go.Proofs.Ytmifmfljiaoeaab
