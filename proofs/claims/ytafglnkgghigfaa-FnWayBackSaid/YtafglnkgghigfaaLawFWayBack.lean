/- Proved: for every input of the form's own reach the law FnWayBack answers true and its argument reads afterwards as before; no further condition. -/
import Derived.Test.YtafglnkgghigfaaWayP
import Derived.Test.YtafglnkgghigfaaDraw3
import Derived.Test.YtafglnkgghigfaaHar
import Derived.Test.YtafglnkgghigfaaOpen
namespace Go.Proofs.Ytafglnkgghigfaa
open Go.RowKit Go.PM Go.PW
theorem drawWayBack_c (w : World) (v : Value) (n : Nat) (hv : RdB w w.heap.size v n) :
    Calls Try.prog 33 #[v] w fun e w' => ∃ u xs s, e = .returned (.tuple #[u, .string s]) ∧ w'.ownsRow w.heap.size 81 2 u xs.length (mcells xs) ∧ (xs.length ≤ 65 ∧ ∀ m ∈ xs, m.1.size ≤ 64 ∧ m.2.size ≤ 64) ∧ s.size ≤ 40 ∧ Below w.heap.size w w' := by
  have HO := Lib.hid (drawSourceOf_c w v n hv)
  go_enter Try.func33, Try.ntmps33
  go_wp2_with fail
  refine HO.out.mono ?_
  rintro e w1 ⟨u, xs, s, rfl, ho, hsh, hz, hb⟩
  go_wp2
  go_ret2
  exact ⟨_, xs, s, rfl, ho, hsh, hz, hb⟩
set_option maxRecDepth 100000 in
set_option maxHeartbeats 3200000 in
theorem exWayBack (w : World) (v0 : Value) (n0 : Nat) (hv : RdB w w.heap.size v0 n0) :
    Calls Try.prog 5 #[v0] w fun e w' => e = .returned (.bool true) ∧ Below w.heap.size w w' := by
  have hv0 := hv
  obtain ⟨A, cap, rfl, hc, hn, _⟩ := hv
  by_cases hbig : 1048576 < n0
  · have t : decide ((n0 : Int) > 1048576) = true := by simp; omega
    go_enter Try.func5, Try.ntmps5
    go_wp2
    go_ret
    exact ⟨rfl, Below.refl _ _⟩
  have t : decide ((n0 : Int) > 1048576) = false := by simp; omega
  have HD := Lib.hid (drawWayBack_c w _ n0 hv0)
  clear hv0
  go_enter Try.func5, Try.ntmps5
  go_wp2_with fail
  refine HD.out.mono ?_
  rintro e w1 ⟨u, xs, a, rfl, ho, ⟨hl, hz⟩, ha, b1⟩
  have hs1 := b1.size
  have R1 : RdM w1 u xs := Rd.of_own ho
  have HZ : Hid (∀ m ∈ xs, m.1.size ≤ 9223372036854775807 ∧ m.2.size ≤ 9223372036854775807) := fun m hm => by have := hz m hm; omega
  clear HD ho hz
  go_wp2_with fail
  refine (imWayBack_c xs u a _ R1).mono ?_
  rintro e w2 ⟨rfl, h2⟩
  have b2 := b1.trans (h2.mono hs1)
  have hs2 := b2.size
  have R2 := R1.below h2
  go_wp2_with fail
  refine (spWayBack_c xs u a _ R2 HZ.out (by omega)).mono ?_
  rintro e w3 ⟨rfl, h3⟩
  have b3 := b2.trans (h3.mono hs2)
  have hs3 := b3.size
  have R3 := R2.below h3
  go_wp2_with fail
  refine (imWheelOf_c xs u a _ R3).mono ?_
  rintro e w4 ⟨rfl, h4⟩
  have b4 := b3.trans (h4.mono hs3)
  have hs4 := b4.size
  have R4 := R3.below h4
  go_wp2_with fail
  refine (spWheelOf_c xs u a _ R4 HZ.out (by omega)).mono ?_
  rintro e w5 ⟨rfl, h5⟩
  have b5 := b4.trans (h5.mono hs4)
  have hs5 := b5.size
  have R5 := R4.below h5
  go_wp2_with fail
  refine (imDepthOf_c xs u a _ R5).mono ?_
  rintro e w6 ⟨rfl, h6⟩
  have b6 := b5.trans (h6.mono hs5)
  have hs6 := b6.size
  have R6 := R5.below h6
  clear R1 R2 R3 R4 R5 h2 h3 h4 h5 h6 b1 b2 b3 b4 b5
  dsimp only
  have HDI : Hid (depthI xs a = if mvalid xs && isP a then (depN (nxT (tabOf xs)) (pidx a) : Int) else -1) := rfl
  have HSD := Lib.hid (fun W (hW : RdM W u xs) => spDepthOf_c xs u a W hW HZ.out (by omega))
  rcases Bool.eq_false_or_eq_true (mvalid xs && isP a) with hrb | hrb
  · have hmv : MV xs := by have := (Bool.and_eq_true _ _ ▸ hrb).1; simpa [mvalid] using this
    have hpa : isP a = true := (Bool.and_eq_true _ _ ▸ hrb).2
    have hm1 : mvalid xs = true := (Bool.and_eq_true _ _ ▸ hrb).1
    have hf := SV_tab hmv
    have HIM := Lib.hid (fun (i : Nat) (hi : i < 9) (W : World) (hW : RdM W u xs) => show Calls Try.prog 22 #[u, .string (sn i)] W fun e w' => e = .returned (.tuple #[.string (sn (sx (tabOf xs) i)), .bool true]) ∧ Below W.heap.size W w' from by
      have := imSourceOf_c xs u (sn i) W hW
      have hip : isP (sn i) = true := by rw [(ch_all i (by omega)).2.2.1]; simpa using hi
      rw [hm1, hip, sn_nm i hi, ← srcM_nm hmv hi, ← (sx_lt hf hi).2, ← sn_nm i hi] at this
      exact this)
    have HS19 := Lib.hid (fun (i : Nat) (hi : i < 9) => (sx_lt hf hi).1)
    obtain ⟨wy, wh, s0, D, hs9, hasn, hWY, hWH, hDD, hwl, hwp, hW19, hSM, hWHm, hFR, hLA, hZ0, hdep, hH19, hhl⟩ := wb_all hmv hpa
    have HWAY : Hid (okS (mvalid xs && isP a) (wayB xs a) = txt wy) := by show _ = _; rw [hrb, hWY]; rfl
    have HWHL : Hid (okS (mvalid xs && isP a) (whB xs a) = txt wh) := by show _ = _; rw [hrb, hWH]; rfl
    have HSD2 : Hid (∀ W, RdM W u xs → Calls Try.prog 37 #[u, .string a] W fun e w' => e = .returned (.int .i64 (D : Int)) ∧ Below W.heap.size W w') := by rw [← hDD]; exact HSD.out
    have HRB := Lib.hid hrb
    rw [HWAY.out, HWHL.out, HRB.out, hDD]
    have HW19 := Lib.hid hW19
    have HSM := Lib.hid hSM
    have HWH := Lib.hid hWHm
    have HFR := Lib.hid hFR
    have HLA := Lib.hid hLA
    have HZ0 := Lib.hid hZ0
    have HH19 := Lib.hid hH19
    have HASN := Lib.hid hasn
    clear HWAY HWHL HDI HSD hf hmv hm1 hrb hWY hWH hDD hW19 hSM hWHm hFR hLA hZ0 hH19 hpa HRB
    have hwz := txt_size wy
    have hhz := txt_size wh
    have HEX := Lib.hid (fun j hj => txt_extract wy j hj)
    have HTK := Lib.hid (fun j => txt_take wy j)
    have HPW := Lib.hid (fun l (hl : ∀ x ∈ l, x < 19) i (hi : i < 19) => pmH_txt hl hi)
    have HPI := Lib.hid (fun i (hi : i < 19) => pmI_sn hi)
    have HPC := Lib.hid (fun s W => pmIndex_c s W)
    have HHC := Lib.hid (fun s c W hs => pmHas_c s c W hs)
    generalize hty : txt wy = ty at *
    generalize hth : txt wh = th at *
    have HTY := Lib.hid hty
    have HTH := Lib.hid hth
    clear hty hth hasn
    have e1 : (ty.toList == ty.toList) = true := by simp
    have e2 : (th.toList == th.toList) = true := by simp
    go_wp2_with fail
    refine (HSD2.out _ R6).mono ?_
    rintro e w7 ⟨rfl, h7⟩
    have b7 := b6.trans (h7.mono hs6)
    have hs7 := b7.size
    have R7 := R6.below h7
    clear h7 R6 b6
    have hty2 : ty.size = wy.length := hwz
    have hth2 : th.size = wh.length := hhz
    go_wp2
    rename World => wo
    go_loopw [14, 15, 16] (fun i _ _ wr => ∃ (j : Nat), j + 1 ≤ wy.length ∧ i = .int .i64 ((j : Int) + 1) ∧ Below wo.heap.size wo wr) (fun i _ _ _ => wy.length - (intOf i).toNat)
    case atStart => exact ⟨0, by omega, rfl, Below.refl _ _⟩
    case round =>
      obtain ⟨j, hj, rfl, hb⟩ := hrel
      have hbs := hb.size
      have hxr := R7.below hb
      by_cases hlt : j + 1 < wy.length
      · have hstep := HSM.out j hlt
        have hexA := HEX.out j (by omega)
        have hexB := HEX.out (j + 1) hlt
        have htk := HTK.out (j + 1)
        have hfr := HFR.out (j + 1) hlt
        have hwh := HWH.out (j + 1) hlt
        have h19 := HW19.out wy[j + 1] (List.getElem_mem hlt)
        have him := HIM.out wy[j] hstep.1 _ hxr
        rw [hstep.2] at him
        have htake19 : ∀ x ∈ wy.take (j + 1), x < 19 := fun x hx => HW19.out x (List.mem_of_mem_take hx)
        have hp1 := HPW.out (wy.take (j + 1)) htake19 wy[j + 1] h19
        rw [show decide (wy[j + 1] ∈ wy.take (j + 1)) = false by simpa using hfr] at hp1
        have hp2 := HPW.out wh HH19.out wy[j + 1] h19
        have hpi := HPI.out wy[j + 1] h19
        have HIMX := Lib.hid him
        have htkz := txt_size (wy.take (j + 1))
        have htkl : (wy.take (j + 1)).length ≤ 19 := by rw [List.length_take]; omega
        have HP1 := Lib.hid hp1
        have HP2 := Lib.hid hp2
        have HPI2 := Lib.hid hpi
        have HWH2 := Lib.hid hwh
        clear him hstep hfr hwh htake19 hp1 hp2 hpi
        generalize wy[j + 1] = x1 at *
        generalize wy[j] = x0 at *
        rw [HTH.out] at HP2
        generalize htt : txt (wy.take (j + 1)) = tt at *
        generalize sn x1 = s1 at *
        have e3 : (s1.toList == s1.toList) = true := by simp
        have htsz : tt.size ≤ 1000 := by omega
        have hthz : th.size ≤ 1000 := by omega
        have i0 : (0 : Int) ≤ (j : Int) := by omega
        by_cases h9 : x1 < 9
        · have hpc : Hid (∀ W, Calls Try.prog 25 #[.string s1] W fun e w' => e = .returned (.int .i64 (x1 : Int)) ∧ Below W.heap.size W w') := by
            have := HPI2.out
            rw [if_pos h9] at this
            rw [← this]
            exact HPC.out s1
          have hph : Hid (∀ W, Calls Try.prog 31 #[.string th, .string s1] W fun e w' => e = .returned (.bool true) ∧ Below W.heap.size W w') := fun W => by
            have := HHC.out th s1 W hthz
            rw [HP2.out, show decide (x1 ∈ wh) = true by simpa using HWH2.out h9] at this
            exact this
          have hpt : Hid (∀ W, Calls Try.prog 31 #[.string tt, .string s1] W fun e w' => e = .returned (.bool false) ∧ Below W.heap.size W w') := fun W => by
            have := HHC.out tt s1 W htsz
            rw [HP1.out] at this
            exact this
          have i1 : (0 : Int) ≤ (x1 : Int) := by omega
          go_wp2_with fail
          refine HIMX.out.mono ?_
          rintro e w8 ⟨rfl, h8⟩
          have b8 := hb.trans (h8.mono hbs)
          have hs8 := b8.size
          go_wp2_with fail
          refine (hpc.out _).mono ?_
          rintro e w9 ⟨rfl, h9'⟩
          have b9 := b8.trans (h9'.mono hs8)
          have hs9' := b9.size
          go_wp2_with fail
          refine (hph.out _).mono ?_
          rintro e w10 ⟨rfl, h10⟩
          have b10 := b9.trans (h10.mono hs9')
          have hs10 := b10.size
          go_wp2_with fail
          refine (hpt.out _).mono ?_
          rintro e w11 ⟨rfl, h11⟩
          have b11 := b10.trans (h11.mono hs10)
          clear h8 h9' h10 h11 b8 b9 b10
          go_wp2
          go_roundw
          case rel => exact ⟨j + 1, by omega, by go_num, b11⟩
          case measure => simp [intOf]; omega
        · have hpc : Hid (∀ W, Calls Try.prog 25 #[.string s1] W fun e w' => e = .returned (.int .i64 (-1)) ∧ Below W.heap.size W w') := by
            have := HPI2.out
            rw [if_neg h9] at this
            rw [← this]
            exact HPC.out s1
          have hpt : Hid (∀ W, Calls Try.prog 31 #[.string tt, .string s1] W fun e w' => e = .returned (.bool false) ∧ Below W.heap.size W w') := fun W => by
            have := HHC.out tt s1 W htsz
            rw [HP1.out] at this
            exact this
          go_wp2_with fail
          refine HIMX.out.mono ?_
          rintro e w8 ⟨rfl, h8⟩
          have b8 := hb.trans (h8.mono hbs)
          have hs8 := b8.size
          go_wp2_with fail
          refine (hpc.out _).mono ?_
          rintro e w9 ⟨rfl, h9'⟩
          have b9 := b8.trans (h9'.mono hs8)
          have hs9' := b9.size
          go_wp2_with fail
          refine (hpt.out _).mono ?_
          rintro e w11 ⟨rfl, h11⟩
          have b11 := b9.trans (h11.mono hs9')
          clear h8 h9' h11 b8 b9
          go_wp2
          go_roundw
          case rel => exact ⟨j + 1, by omega, by go_num, b11⟩
          case measure => simp [intOf]; omega
      · have hjl : j + 1 = wy.length := by omega
        have hexL := HEX.out j (by omega)
        have hex0 := HEX.out 0 hwp
        rw [HZ0.out hwp, ← HASN.out] at hex0
        have h19 := HW19.out wy[j] (List.getElem_mem (by omega))
        have hla := HLA.out wy[j] (by rw [show wy.length - 1 = j by omega]; exact List.getElem?_eq_getElem (by omega))
        have hpi := HPI.out wy[j] h19
        have him := HIM.out wy[j]
        have hs19 := HS19.out wy[j]
        rw [show j + 1 = wy.length from hjl] at hexL
        have hjj : wy.length - 1 = j := by omega
        have e4 : (a.toList == a.toList) = true := by simp
        have HPI2 := Lib.hid hpi
        have HLA2 := Lib.hid hla
        have HIM2 := Lib.hid him
        have hD2 : (D : Int) < (wy.length : Int) := by omega
        have htyz : ty.size ≤ 1000 := by omega
        clear hpi hla him
        generalize wy[j] = xl at *
        rw [← hjl] at hexL
        by_cases h9 : xl < 9
        · have hpc : Hid (∀ W, Calls Try.prog 25 #[.string (sn xl)] W fun e w' => e = .returned (.int .i64 (xl : Int)) ∧ Below W.heap.size W w') := by
            have := HPI2.out
            rw [if_pos h9] at this
            rw [← this]
            exact HPC.out (sn xl)
          have hsx := hs19 h9
          have hph : Hid (∀ W, Calls Try.prog 31 #[.string ty, .string (sn (sx (tabOf xs) xl))] W fun e w' => e = .returned (.bool true) ∧ Below W.heap.size W w') := fun W => by
            have := HHC.out ty (sn (sx (tabOf xs) xl)) W htyz
            rw [← HTY.out, HPW.out wy HW19.out _ hsx, HTY.out, show decide (sx (tabOf xs) xl ∈ wy) = true by simpa using HLA2.out h9] at this
            exact this
          have HIX := Lib.hid (HIM2.out h9)
          generalize sx (tabOf xs) xl = xn at *
          have i1 : (0 : Int) ≤ (xl : Int) := by omega
          rw [hjl] at hexL
          generalize sn xl = sl at *
          go_wp2_with fail
          refine (hpc.out _).mono ?_
          rintro e w8 ⟨rfl, h8⟩
          have b8 := hb.trans (h8.mono hbs)
          have hs8 := b8.size
          have hxr8 := R7.below b8
          go_wp2_with fail
          refine (HIX.out _ hxr8).mono ?_
          rintro e w9 ⟨rfl, h9'⟩
          have b9 := b8.trans (h9'.mono hs8)
          have hs9' := b9.size
          go_wp2_with fail
          refine (hph.out _).mono ?_
          rintro e w10 ⟨rfl, h10⟩
          have b10 := b9.trans (h10.mono hs9')
          clear h8 h9' h10 b8 b9
          go_wp2
          go_ret
          exact ⟨rfl, b7.trans (b10.mono hs7)⟩
        · have hpc : Hid (∀ W, Calls Try.prog 25 #[.string (sn xl)] W fun e w' => e = .returned (.int .i64 (-1)) ∧ Below W.heap.size W w') := by
            have := HPI2.out
            rw [if_neg h9] at this
            rw [← this]
            exact HPC.out (sn xl)
          rw [hjl] at hexL
          generalize sn xl = sl at *
          go_wp2_with fail
          refine (hpc.out _).mono ?_
          rintro e w8 ⟨rfl, h8⟩
          have b8 := hb.trans (h8.mono hbs)
          clear h8
          go_wp2
          go_ret
          exact ⟨rfl, b7.trans (b8.mono hs7)⟩
  · have HW : Hid (okS (mvalid xs && isP a) (wayB xs a) = ⟨#[]⟩) := by show _ = _; rw [hrb]; rfl
    have HH : Hid (okS (mvalid xs && isP a) (whB xs a) = ⟨#[]⟩) := by show _ = _; rw [hrb]; rfl
    have HRB := Lib.hid hrb
    rw [hrb] at HDI
    have HDP : Hid (depthI xs a = -1) := HDI.out
    rw [HW.out, HH.out, HRB.out, HDP.out]
    have HSD2 : Hid (∀ W, RdM W u xs → Calls Try.prog 37 #[u, .string a] W fun e w' => e = .returned (.int .i64 (-1)) ∧ Below W.heap.size W w') := by rw [← HDP.out]; exact HSD.out
    clear HW HH HDP HDI HSD hrb HRB
    go_wp2_with fail
    refine (HSD2.out _ R6).mono ?_
    rintro e w7 ⟨rfl, h7⟩
    have b7 := b6.trans (h7.mono hs6)
    have hs7 := b7.size
    have R7 := R6.below h7
    go_wp2_with fail
    refine (HSD2.out _ R7).mono ?_
    rintro e w8 ⟨rfl, h8⟩
    go_wp2
    go_ret
    exact ⟨rfl, b7.trans (h8.mono hs7)⟩


namespace fnWayBack
open Go.RowKit Go.PM Go.ChangeShapes Go.WideShapes Go.ChangeAt
open Go.ChangeMaps (open_string shut_string)
set_option maxRecDepth 100000 in
theorem lifted (os : Os) (started : os.Started) (H : Type) (enc : TypeId × Value → H) :
    ReturnsInHanded {} Try.checked os 5 .any (Rows.fnWayBackSpec.pre6 enc Try.prog Try.f5 Rows.fnWayBackRow.domain false) (Rows.fnWayBackSpec.post enc Try.prog Try.f5 false true false false) := by
  refine returnsInHanded_of_change (C := Try.checked) own started (by kernel_rfl) Try.func5
    (ChangeSpec.witness6 (enc := enc) (C := Try.checked) false ⟨#[], #[.slice none 0 0], []⟩ 8 (by kernel_rfl) (by kernel_rfl) (by kernel_rfl) (by kernel_rfl)) ?_
  intro W base args ds gs before hval0 hW hcnd _
  have hval : ∀ (j : Nat) t v, Try.f5.params[j]? = some t → args[j]? = some v → Value.okWide Try.prog W .any base t v := hval0
  have hW' := hW
  obtain ⟨p, q, hA0, hV, rfl, hfz, hnd⟩ := hW
  have hA : DataW.TrodAll enc Try.prog W 0 (fun _ => true) true Try.f5.params.toList args.toList ds p := hA0
  rw [Try.params5] at hA hval
  obtain ⟨v0, vs0, d0, ds0, p0, q0, hargs, rfl, rfl, h0, r0⟩ := trodAll_cons hA
  obtain ⟨rfl, rfl, rfl⟩ := trodAll_nil r0
  obtain rfl : args = #[v0] := by cases args; simp_all
  obtain ⟨rfl, rfl⟩ := trodVars_none hV
  have k0 := h0
  have lt0 : ∀ x ∈ p0, x.block < W.heap.size := by obtain ⟨m, hm⟩ := k0; exact DataW.trod_lt m _ _ _ hm
  obtain ⟨a0, len0, cap0, rfl⟩ := okWide_slice Try.underlying22 (hval 0 22 v0 rfl rfl)
  have hx0 : RdB W W.heap.size (.slice a0 len0 cap0) len0 := by obtain ⟨fuel, hf⟩ := h0; exact open_bytes hf
  clear hA0 hval0
  refine (exWayBack W _ len0 hx0).mono fun e W' ⟨he, bel⟩ => ?_
  subst he
  exact ⟨_, rfl, _, _, _, [], _, [], hW', trodAll_mk1 (shut_bool Try.underlying4 _), (trodAll_cons_mk (Below.trod laidOut (by kernel_rfl) (of_decide_eq_true (by kernel_rfl)) k0 bel lt0) trodAll_mk0), rfl, bel.frame _, fun h => by cases h⟩

theorem over : Rows.fnWayBackRow.holds Try.pinned (OpenSpec.ofChange Rows.fnWayBackSpec) :=
  OpenClaim.holds_of_wide 5 Try.f5 rfl rfl rfl rfl rfl rfl rfl ⟨rfl, rfl, rfl, rfl, rfl⟩ rfl rfl rfl rfl rfl (by kernel_rfl) Try.func5 (by kernel_rfl)
    (of_decide_eq_true (by kernel_rfl)) (by unfold Func.isWrapper; first | (rw [if_pos (by decide +kernel)]; kernel_rfl) | (rw [if_neg (by decide +kernel)]; exact ⟨rfl, rfl⟩))
    (fun os started H enc _ => lifted os started H enc)

/-- The statement. -/
theorem proved : Rows.FnWayBackSaid := over
end fnWayBack
end Go.Proofs.Ytafglnkgghigfaa
