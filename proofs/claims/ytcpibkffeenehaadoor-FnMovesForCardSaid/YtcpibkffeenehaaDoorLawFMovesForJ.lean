/- Proved: for every input of the form's own reach the law FnMovesFor answers true and its argument reads afterwards as before; no further condition. -/
import Derived.Test.YtcpibkffeenehaaDoorCkC
import Derived.Test.YtcpibkffeenehaaDoorCkE
import Derived.Test.YtcpibkffeenehaaDoorCkG
import Derived.Test.YtcpibkffeenehaaDoorCard10
import Derived.Test.YtcpibkffeenehaaDoorCkD
import Derived.Test.YtcpibkffeenehaaDoorHar
import Derived.Test.YtcpibkffeenehaaDoorOpen
namespace Go.PF
open Go.PM Go.PD Go.RowKit Go.Lib
theorem ag_cl {ps az : ByteArray} (h : clOk ps.data.toList az.data.toList = true) : agOk ps.data.toList (clM ps.data.toList az.data.toList) = true ∧ agB ps.data.toList (clM ps.data.toList az.data.toList) = az := by
  have h1 : agS ps.data.toList (clM ps.data.toList az.data.toList) = true := List.all_eq_true.2 fun m hm => by
    obtain ⟨x, hx, rfl⟩ := List.mem_map.1 hm
    have : inPs ps.data.toList (ch x.1, ch x.2) = true := decide_eq_true (List.of_mem_zip hx).1
    rw [this, Bool.or_true]
  have h2 : agOk ps.data.toList (clM ps.data.toList az.data.toList) = true := by
    unfold agOk
    rw [cl_par h, cl_mv h, h1]; rfl
  refine ⟨h2, ?_⟩
  unfold agB okS
  rw [h2, if_pos rfl]
  unfold arB
  rw [cl_args h]
end Go.PF
namespace Go.Proofs.YtcpibkffeenehaaDoor
open Go.RowKit Go.PM Go.PD Go.PF Go.PW Go.PO
attribute [local go_sem] Oper.semAt_some
set_option maxRecDepth 100000 in
set_option maxHeartbeats 6400000 in
theorem exMovesFor (w : World) (v0 : Value) (n0 : Nat) (hv : RdB w w.heap.size v0 n0) (hT : U8w w) :
    Calls Tryd.prog 3 #[v0] w fun e w' => e = .returned (.bool true) ∧ Below w.heap.size w w' := by
  have hv0 := hv
  obtain ⟨A, cap, rfl, hc, hn, _⟩ := hv
  by_cases hbig : 1048576 < n0
  · have t : decide ((n0 : Int) > 1048576) = true := by simp; omega
    go_enter Tryd.func3, Tryd.ntmps3
    go_wp2
    go_ret
    exact ⟨rfl, Below.refl _ _⟩
  have t : decide ((n0 : Int) > 1048576) = false := by simp; omega
  have HD := Lib.hid (drawMovesFor_c w _ n0 hv0)
  clear hv0
  go_enter Tryd.func3, Tryd.ntmps3
  go_wp2_with fail
  refine HD.out.mono ?_
  rintro e w1 ⟨ps, az, rfl, hsh, b1⟩
  have hs1 := b1.size
  have hT1 := hT.below b1
  have hps : ps.size ≤ 1048576 := by have := hsh.out.1; omega
  have haz : az.size ≤ 1048576 := by have := hsh.out.2; omega
  have HMI := Lib.hid (imMovesFor_c ps az hps haz w1 hT1)
  have HMS := Lib.hid (fun W => spMovesFor_c ps az hps haz W)
  have HCI := Lib.hid (fun W (hb : Below w1.heap.size w1 W) => imCallCost_c ps az hps haz W (hT1.below hb))
  have HCS := Lib.hid (fun W => spCallCost_c ps az hps haz W)
  have HDI := Lib.hid (fun W (hb : Below w1.heap.size w1 W) => imSteadyParams_c ps az hps haz W (hT1.below hb))
  have HDS := Lib.hid (fun W => spSteadyParams_c ps az hps haz W)
  have HVI := Lib.hid (fun W (hb : Below w1.heap.size w1 W) => imCallValid_c ps az hps haz W (hT1.below hb))
  have HVS := Lib.hid (fun W => spCallValid_c ps az hps haz W)
  have HSI := Lib.hid (fun W (hb : Below w1.heap.size w1 W) => imIsSteady_c ps az hps haz W (hT1.below hb))
  have HSS := Lib.hid (fun W => spIsSteady_c ps az hps haz W)
  have HPS := Lib.hid (fun v u W hx hy => pmSame_yc (clL ps.data.toList az.data.toList) v u W hx hy)
  have HOS : Hid (sdOk ps az = (clOk ps.data.toList az.data.toList && decide (ps = az))) := rfl
  have HOD : Hid (sdB ps.data.toList az.data.toList = okS (clOk ps.data.toList az.data.toList) (sdT ps.data.toList az.data.toList)) := rfl
  clear HD hsh
  rw [HOS.out] at HSI HSS
  rw [HOD.out] at HDI HDS
  clear HOS HOD
  rcases Bool.eq_false_or_eq_true (clOk ps.data.toList az.data.toList) with h1 | h1
  · have hl := cl_len h1
    have hl4 := (par_len (cl_par h1)).2
    rw [size_data] at hl4
    rw [size_data, size_data] at hl
    obtain ⟨g1, g2⟩ := ag_cl h1
    have HAG := Lib.hid (fun v W hx => imArgsOf_c ps hps (clM ps.data.toList az.data.toList) v W hx)
    rw [g1, g2] at HAG
    have HAO := Lib.hid (fun v W hx => imAtOnce_c (clM ps.data.toList az.data.toList) v st9 W hx (by decide))
    have HAC : Hid (∀ k (_ : k < ps.size) , pidx (ps.extract k (k + 1)) < 9 ∧ pmI (ps.extract k (k + 1)) = (pidx (ps.extract k (k + 1)) : Nat) ∧ (aoB (clM ps.data.toList az.data.toList) st9).extract (pidx (ps.extract k (k + 1))) (pidx (ps.extract k (k + 1)) + 1) = if isP (az.extract k (k + 1)) then dg9.extract (pidx (az.extract k (k + 1))) (pidx (az.extract k (k + 1)) + 1) else az.extract k (k + 1)) := fun k hk => by
      have h3 : k < ps.data.toList.length := by rw [size_data]; exact hk
      have h4 : k < az.data.toList.length := by rw [size_data]; omega
      have h5 := ao_call h1 k h3 h4
      have h6 := par_place (cl_par h1) _ (List.getElem_mem h3)
      rw [extract_one ps k hk, extract_one az k (by omega), List.getD_eq_getElem?_getD, List.getD_eq_getElem?_getD, List.getElem?_eq_getElem h3, List.getElem?_eq_getElem h4]
      exact ⟨(ch_nm h6).1, if_pos h6, h5⟩
    have HAZ : Hid ((aoB (clM ps.data.toList az.data.toList) st9).size = 11) := by
      show _ = _
      have e2 : aoB (clM ps.data.toList az.data.toList) st9 = stB (aoS (tabOf (clM ps.data.toList az.data.toList)) (ofB st9)) := by
        unfold aoB okS
        rw [cl_mv h1, st9_valid]; rfl
      rw [e2]; rfl
    have e1 : (mvalid (clM ps.data.toList az.data.toList) && stateV st9) = true := by rw [cl_mv h1, st9_valid]; rfl
    rw [e1] at HAO
    have hcz := cost_zero h1
    have hcl := cost_least h1
    have hcr := cost_range h1
    have hsa := steady_all (cl_len h1)
    have hsl := sdT_le ps.data.toList az.data.toList
    rw [size_data] at hcl hsa hsl
    have hpe : ps.data.toList = az.data.toList ↔ ps = az := ⟨fun h => ByteArray.ext (Array.toList_inj.1 h), fun h => by rw [h]⟩
    rw [show coI ps.data.toList az.data.toList = cioI (clM ps.data.toList az.data.toList) from if_pos h1] at HCI HCS
    rw [clL_yes h1, h1] at HMI HMS
    rw [clL_yes h1] at HPS
    rw [h1, show ∀ s, okS true s = s from fun _ => rfl] at HDI HDS
    rw [h1] at HVI HVS
    rw [h1, Bool.true_and] at HSI HSS
    have f2 : decide (ps = az) = decide ((sdT ps.data.toList az.data.toList).size = ps.size) := by rw [decide_eq_decide, hsa, hpe]
    have f3 : decide (ps = az) = decide (cioI (clM ps.data.toList az.data.toList) = 0) := by rw [decide_eq_decide, hcz, hpe]
    clear h1 e1 g1 g2 hcz hsa hpe hT1 hT
    generalize aoB (clM ps.data.toList az.data.toList) st9 = S at *
    generalize sdT ps.data.toList az.data.toList = sd at *
    generalize cioI (clM ps.data.toList az.data.toList) = co at *
    generalize clM ps.data.toList az.data.toList = xs at *
    generalize decide (ps = az) = st at *
    have q1 : (az.toList == az.toList) = true := by simp
    have q2 : (sd.toList == sd.toList) = true := by simp
    have q3 : (co == co) = true := by simp
    have q4 : (st == st) = true := by simp
    have q5 : (co != co) = false := by simp
    have q6 : (st != st) = false := by simp
    have q7 : (!(sd.toList == sd.toList)) = false := by simp
    go_wp2_with fail
    refine HMI.out.mono ?_
    rintro e w2 ⟨v2, rfl, o2, b2⟩
    have B2 : Below w1.heap.size w1 w2 := b2
    have R2 : RdM w2 v2 xs := Rd.of_own o2
    clear o2 b2
    go_wp2_with fail
    refine (HMS.out _).mono ?_
    rintro e w3 ⟨v3, rfl, o3, b3⟩
    have B3 : Below w1.heap.size w1 w3 := B2.trans (b3.mono B2.size)
    have R23 := R2.below b3
    have R3 : RdM w3 v3 xs := Rd.of_own o3
    clear o3 R2 B2 b3
    go_wp2_with fail
    refine (HCI.out _ B3).mono ?_
    rintro e w4 ⟨rfl, b4⟩
    have B4 : Below w1.heap.size w1 w4 := B3.trans (b4.mono B3.size)
    replace R23 := R23.below b4
    replace R3 := R3.below b4
    clear B3 b4
    go_wp2_with fail
    refine (HDI.out _ B4).mono ?_
    rintro e w5 ⟨rfl, b5⟩
    have B5 : Below w1.heap.size w1 w5 := B4.trans (b5.mono B4.size)
    replace R23 := R23.below b5
    replace R3 := R3.below b5
    clear B4 b5
    go_wp2_with fail
    refine (HDS.out _).mono ?_
    rintro e w6 ⟨rfl, b6⟩
    have B6 : Below w1.heap.size w1 w6 := B5.trans (b6.mono B5.size)
    replace R23 := R23.below b6
    replace R3 := R3.below b6
    clear B5 b6
    go_wp2_with fail
    refine (HPS.out _ _ _ R23 R3).mono ?_
    rintro e w7 ⟨rfl, b7⟩
    have B7 : Below w1.heap.size w1 w7 := B6.trans (b7.mono B6.size)
    replace R23 := R23.below b7
    clear B6 b7 R3
    go_wp2_with fail
    refine (HVI.out _ B7).mono ?_
    rintro e w8 ⟨rfl, b8⟩
    have B8 : Below w1.heap.size w1 w8 := B7.trans (b8.mono B7.size)
    replace R23 := R23.below b8
    clear B7 b8
    go_wp2_with fail
    refine (HVS.out _).mono ?_
    rintro e w9 ⟨rfl, b9⟩
    have B9 : Below w1.heap.size w1 w9 := B8.trans (b9.mono B8.size)
    replace R23 := R23.below b9
    clear B8 b9
    go_wp2_with fail
    refine (HCS.out _).mono ?_
    rintro e w10 ⟨rfl, b10⟩
    have B10 : Below w1.heap.size w1 w10 := B9.trans (b10.mono B9.size)
    replace R23 := R23.below b10
    clear B9 b10
    go_wp2_with fail
    refine (HSI.out _ B10).mono ?_
    rintro e w11 ⟨rfl, b11⟩
    have B11 : Below w1.heap.size w1 w11 := B10.trans (b11.mono B10.size)
    replace R23 := R23.below b11
    clear B10 b11
    go_wp2_with fail
    refine (HSS.out _).mono ?_
    rintro e w12 ⟨rfl, b12⟩
    have B12 : Below w1.heap.size w1 w12 := B11.trans (b12.mono B11.size)
    replace R23 := R23.below b12
    clear B11 b12
    go_wp2_with fail
    refine (HAG.out _ _ R23).mono ?_
    rintro e w13 ⟨rfl, b13⟩
    have B13 : Below w1.heap.size w1 w13 := B12.trans (b13.mono B12.size)
    replace R23 := R23.below b13
    clear B12 b13
    go_wp2_with fail
    refine (HAO.out _ _ R23).mono ?_
    rintro e w14 ⟨rfl, b14⟩
    have B14 : Below w1.heap.size w1 w14 := B13.trans (b14.mono B13.size)
    clear B13 b14 R23 HAO HAG HMI HMS HCI HCS HDI HDS HVI HVS HSS HPS
    go_wp2
    go_loopw [18, 19, 20, 21, 175] (fun _ _ _ _ i wr => ∃ (k : Nat), k ≤ ps.size ∧ i = .int .i64 k ∧ Below w1.heap.size w1 wr) (fun _ _ _ _ i _ => ps.size - (RowKit.intOf i).toNat)
    case atStart => exact ⟨0, by omega, rfl, B14⟩
    case round =>
      clear B14
      obtain ⟨k, hk, rfl, hb⟩ := hrel
      have hbs := hb.size
      by_cases hlt : k < ps.size
      · have i0 : (0 : Int) ≤ (k : Int) := by omega
        have i1 : (k : Int) < (ps.size : Int) := by omega
        have i2 : (k : Int) + 1 ≤ (ps.size : Int) := by omega
        have i3 : (k : Int) + 1 ≤ (az.size : Int) := by omega
        obtain ⟨a1, a2, a3⟩ := HAC.out k hlt
        have hsz := HAZ.out
        have HP1 := Lib.hid (fun W => pmIndex_c (az.extract k (k + 1)) W)
        have HP2 := Lib.hid (fun W => pmIndex_c (ps.extract k (k + 1)) W)
        rw [a2] at HP2
        clear a2 HAC HAZ
        generalize pidx (ps.extract k (k + 1)) = kp at *
        have j1 : (0 : Int) ≤ (kp : Int) := by omega
        have j2 : (kp : Int) + 1 ≤ (S.size : Int) := by omega
        rcases Bool.eq_false_or_eq_true (isP (az.extract k (k + 1))) with hp | hp
        · rw [show pmI (az.extract k (k + 1)) = (pidx (az.extract k (k + 1)) : Nat) from if_pos hp] at HP1
          have a4 := (pidx_spec hp).1
          rw [hp, if_pos rfl] at a3
          clear hp
          generalize pidx (az.extract k (k + 1)) = kq at *
          have j3 : (0 : Int) ≤ (kq : Int) := by omega
          have j4 : (kq : Int) + 1 ≤ 9 := by omega
          have a5 : ((S.extract kp (kp + 1)).toList == ((⟨#[49, 50, 51, 52, 53, 54, 55, 56, 57]⟩ : ByteArray).extract kq (kq + 1)).toList) = true := by rw [a3]; simp [dg9]
          have A3 := Lib.hid a3
          clear a3
          go_wp2_with fail
          refine (HP1.out _).mono ?_
          rintro e w15 ⟨rfl, b15⟩
          have B15 : Below w1.heap.size w1 w15 := hb.trans (b15.mono hbs)
          go_wp2_with fail
          refine (HP2.out _).mono ?_
          rintro e w16 ⟨rfl, b16⟩
          have B16 : Below w1.heap.size w1 w16 := B15.trans (b16.mono B15.size)
          go_wp2
          go_roundw
          case rel => exact ⟨k + 1, by omega, by go_num, B16⟩
          case measure => simp [RowKit.intOf]; omega
        · rw [show pmI (az.extract k (k + 1)) = -1 from if_neg (by rw [hp]; decide)] at HP1
          rw [hp] at a3
          have a5 : ((S.extract kp (kp + 1)).toList == (az.extract k (k + 1)).toList) = true := by rw [a3]; simp
          have A3 := Lib.hid a3
          clear hp a3
          go_wp2_with fail
          refine (HP1.out _).mono ?_
          rintro e w15 ⟨rfl, b15⟩
          have B15 : Below w1.heap.size w1 w15 := hb.trans (b15.mono hbs)
          go_wp2_with fail
          refine (HP2.out _).mono ?_
          rintro e w16 ⟨rfl, b16⟩
          have B16 : Below w1.heap.size w1 w16 := B15.trans (b16.mono B15.size)
          go_wp2
          go_roundw
          case rel => exact ⟨k + 1, by omega, by go_num, B16⟩
          case measure => simp [RowKit.intOf]; omega
      · have i1 : ¬ (k : Int) < (ps.size : Int) := by omega
        have HSA := Lib.hid (HSI.out)
        clear HAC HAZ hlt hk
        go_wp2_with fail
        refine (HSA.out _ hb).mono ?_
        rintro e w15 ⟨rfl, b15⟩
        have B15 : Below w1.heap.size w1 w15 := hb.trans (b15.mono hbs)
        have f4 : decide (co ≥ (ps.size : Int) - (sd.size : Int)) = true := decide_eq_true hcl
        cases st with
        | true =>
          have e1 := of_decide_eq_true f2.symm
          have e2 := of_decide_eq_true f3.symm
          have r1 : ((sd.size : Int) == (ps.size : Int)) = true := by simp [e1]
          have r2 : (co == 0) = true := by simp [e2]
          clear e1 e2 f2 f3 q3 q5
          go_wp2_with fail
          refine (HSA.out _ B15).mono ?_
          rintro e w16 ⟨rfl, b16⟩
          have B16 : Below w1.heap.size w1 w16 := B15.trans (b16.mono B15.size)
          go_wp2
          go_ret
          exact ⟨rfl, b1.trans (B16.mono hs1)⟩
        | false =>
          have e1 := of_decide_eq_false f2.symm
          have e2 := of_decide_eq_false f3.symm
          have r1 : ((sd.size : Int) == (ps.size : Int)) = false := by simp; omega
          have r2 : (co == 0) = false := by simpa using e2
          clear e1 e2 f2 f3 q3 q5
          go_wp2_with fail
          refine (HSA.out _ B15).mono ?_
          rintro e w16 ⟨rfl, b16⟩
          have B16 : Below w1.heap.size w1 w16 := B15.trans (b16.mono B15.size)
          go_wp2
          go_ret
          exact ⟨rfl, b1.trans (B16.mono hs1)⟩
  · rw [show coI ps.data.toList az.data.toList = -1 from by unfold coI; rw [h1]; rfl] at HCI HCS
    rw [clL_no h1, h1] at HMI HMS
    rw [clL_no h1] at HPS
    rw [h1, show ∀ s, okS false s = ⟨#[]⟩ from fun _ => rfl] at HDI HDS
    rw [h1] at HVI HVS
    rw [h1, Bool.false_and] at HSI HSS
    clear h1 hT1 hT
    go_wp2_with fail
    refine HMI.out.mono ?_
    rintro e w2 ⟨v2, rfl, o2, b2⟩
    have B2 : Below w1.heap.size w1 w2 := b2
    have R2 : RdM w2 v2 [] := Rd.of_own o2
    clear o2 b2
    go_wp2_with fail
    refine (HMS.out _).mono ?_
    rintro e w3 ⟨v3, rfl, o3, b3⟩
    have B3 : Below w1.heap.size w1 w3 := B2.trans (b3.mono B2.size)
    have R23 := R2.below b3
    have R3 : RdM w3 v3 [] := Rd.of_own o3
    clear o3 R2 B2 b3
    go_wp2_with fail
    refine (HCI.out _ B3).mono ?_
    rintro e w4 ⟨rfl, b4⟩
    have B4 : Below w1.heap.size w1 w4 := B3.trans (b4.mono B3.size)
    replace R23 := R23.below b4
    replace R3 := R3.below b4
    clear B3 b4
    go_wp2_with fail
    refine (HDI.out _ B4).mono ?_
    rintro e w5 ⟨rfl, b5⟩
    have B5 : Below w1.heap.size w1 w5 := B4.trans (b5.mono B4.size)
    replace R23 := R23.below b5
    replace R3 := R3.below b5
    clear B4 b5
    go_wp2_with fail
    refine (HDS.out _).mono ?_
    rintro e w6 ⟨rfl, b6⟩
    have B6 : Below w1.heap.size w1 w6 := B5.trans (b6.mono B5.size)
    replace R23 := R23.below b6
    replace R3 := R3.below b6
    clear B5 b6
    go_wp2_with fail
    refine (HPS.out _ _ _ R23 R3).mono ?_
    rintro e w7 ⟨rfl, b7⟩
    have B7 : Below w1.heap.size w1 w7 := B6.trans (b7.mono B6.size)
    replace R23 := R23.below b7
    replace R3 := R3.below b7
    clear B6 b7
    go_wp2_with fail
    refine (HVI.out _ B7).mono ?_
    rintro e w8 ⟨rfl, b8⟩
    have B8 : Below w1.heap.size w1 w8 := B7.trans (b8.mono B7.size)
    replace R23 := R23.below b8
    replace R3 := R3.below b8
    clear B7 b8
    go_wp2_with fail
    refine (HVS.out _).mono ?_
    rintro e w9 ⟨rfl, b9⟩
    have B9 : Below w1.heap.size w1 w9 := B8.trans (b9.mono B8.size)
    replace R23 := R23.below b9
    replace R3 := R3.below b9
    clear B8 b9
    go_wp2_with fail
    refine (HCS.out _).mono ?_
    rintro e w10 ⟨rfl, b10⟩
    have B10 : Below w1.heap.size w1 w10 := B9.trans (b10.mono B9.size)
    replace R23 := R23.below b10
    replace R3 := R3.below b10
    clear B9 b10
    go_wp2_with fail
    refine (HSI.out _ B10).mono ?_
    rintro e w11 ⟨rfl, b11⟩
    have B11 : Below w1.heap.size w1 w11 := B10.trans (b11.mono B10.size)
    replace R23 := R23.below b11
    replace R3 := R3.below b11
    clear B10 b11
    go_wp2_with fail
    refine (HSS.out _).mono ?_
    rintro e w12 ⟨rfl, b12⟩
    have B12 : Below w1.heap.size w1 w12 := B11.trans (b12.mono B11.size)
    replace R23 := R23.below b12
    replace R3 := R3.below b12
    clear B11 b12
    go_wp2_with fail
    refine (HPS.out _ _ _ R23 R3).mono ?_
    rintro e w13 ⟨rfl, b13⟩
    have B13 : Below w1.heap.size w1 w13 := B12.trans (b13.mono B12.size)
    clear B12 b13 R23 R3
    go_wp2_with fail
    refine (HVI.out _ B13).mono ?_
    rintro e w14 ⟨rfl, b14⟩
    have B14 : Below w1.heap.size w1 w14 := B13.trans (b14.mono B13.size)
    clear B13 b14
    go_wp2_with fail
    refine (HVS.out _).mono ?_
    rintro e w15 ⟨rfl, b15⟩
    have B15 : Below w1.heap.size w1 w15 := B14.trans (b15.mono B14.size)
    clear B14 b15
    go_wp2_with fail
    refine (HCS.out _).mono ?_
    rintro e w16 ⟨rfl, b16⟩
    have B16 : Below w1.heap.size w1 w16 := B15.trans (b16.mono B15.size)
    clear B15 b16
    go_wp2_with fail
    refine (HSI.out _ B16).mono ?_
    rintro e w17 ⟨rfl, b17⟩
    have B17 : Below w1.heap.size w1 w17 := B16.trans (b17.mono B16.size)
    clear B16 b17
    go_wp2_with fail
    refine (HSS.out _).mono ?_
    rintro e w18 ⟨rfl, b18⟩
    have B18 : Below w1.heap.size w1 w18 := B17.trans (b18.mono B17.size)
    clear B17 b18
    go_wp2
    go_ret
    exact ⟨rfl, b1.trans (B18.mono hs1)⟩

namespace fnMovesFor
open Go.RowKit Go.PM Go.ChangeShapes Go.WideShapes Go.ChangeAt
open Go.ChangeMaps (open_string shut_string)
set_option maxRecDepth 100000 in
theorem lifted (os : Os) (started : os.Started) (H : Type) (enc : TypeId × Value → H) :
    ReturnsInHanded {} Tryd.checked os 3 .any (fun w args => (Rows.fnMovesForSpec.pre enc Tryd.prog Tryd.f3 [] false w args ∧ laidMetH Tryd.prog laidL w) ∧ sizedMet enc Tryd.prog Tryd.f3 (OpenSpec.ofChange Rows.fnMovesForSpec) false w args)
      (Rows.fnMovesForSpec.post enc Tryd.prog Tryd.f3 false true false false) := by
  refine returnsInHanded_of_change_and (C := Tryd.checked) (X := fun w _ => laidMetH Tryd.prog laidL w) (fun _ _ _ hh h => h.of_heap hh) own started (by kernel_rfl) Tryd.func3
    (ChangeSpec.witness_at (enc := enc) (C := Tryd.checked) (os := os) (X := fun w _ => laidMetH Tryd.prog laidL w) false (laidWorld os) #[.slice none 0 0] 8 rfl (by kernel_rfl) (by kernel_rfl) (by kernel_rfl) (by kernel_rfl) (by kernel_rfl) (laidWorld_met os _)) ?_
  intro W base args ds gs before hval0 hW _ _ hL _
  have hval : ∀ (j : Nat) t v, Tryd.f3.params[j]? = some t → args[j]? = some v → Value.okWide Tryd.prog W .any base t v := hval0
  have hW' := hW
  obtain ⟨p, q, hA0, hV, rfl, hfz, hnd⟩ := hW
  have hA : DataW.TrodAll enc Tryd.prog W 0 (fun _ => true) true Tryd.f3.params.toList args.toList ds p := hA0
  rw [Tryd.params3] at hA hval
  obtain ⟨v0, vs0, d0, ds0, p0, q0, hargs, rfl, rfl, h0, r0⟩ := trodAll_cons hA
  obtain ⟨rfl, rfl, rfl⟩ := trodAll_nil r0
  obtain rfl : args = #[v0] := by cases args; simp_all
  obtain ⟨rfl, rfl⟩ := trodVars_none hV
  have hG := u8_of_laid hL
  have k0 := h0
  have lt0 : ∀ x ∈ p0, x.block < W.heap.size := by obtain ⟨m, hm⟩ := k0; exact DataW.trod_lt m _ _ _ hm
  obtain ⟨a0, len0, cap0, rfl⟩ := okWide_slice Tryd.underlying22 (hval 0 22 v0 rfl rfl)
  have hx0 : RdB W W.heap.size (.slice a0 len0 cap0) len0 := by obtain ⟨fuel, hf⟩ := h0; exact open_bytes hf
  clear hA0 hval0
  refine (exMovesFor W _ len0 hx0 hG).mono fun e W' ⟨he, bel⟩ => ?_
  subst he
  exact ⟨_, rfl, _, _, _, [], _, [], hW', trodAll_mk1 (shut_bool Tryd.underlying4 _), (trodAll_cons_mk (Below.trod laidOut (by kernel_rfl) (of_decide_eq_true (by kernel_rfl)) k0 bel lt0) trodAll_mk0), rfl, bel.frame _, fun h => by cases h⟩

theorem over : Rows.fnMovesForRow.holds Tryd.pinned (OpenSpec.ofChange Rows.fnMovesForSpec) :=
  OpenClaim.holds_of_wide 3 Tryd.f3 rfl rfl rfl rfl rfl rfl rfl ⟨rfl, rfl, rfl, rfl, rfl⟩ rfl rfl rfl rfl rfl (by kernel_rfl) Tryd.func3 (by kernel_rfl)
    (of_decide_eq_true (by kernel_rfl)) (by unfold Func.isWrapper; first | (rw [if_pos (by decide +kernel)]; kernel_rfl) | (rw [if_neg (by decide +kernel)]; exact ⟨rfl, rfl⟩))
    (fun os started H enc _ => lifted os started H enc)

/-- The statement. -/
theorem proved : Rows.FnMovesForCardSaid :=
  Claim7.holds_tied_plain_at .later [] [.data, .pinned] true Rows.fnMovesForCard.stood.harness false
    over (fun _ h => by cases h) (by kernel_rfl) (fun _ h => by cases h) fnMovesFor_row_tie rfl ⟨rfl, rfl⟩ (by kernel_rfl) rfl
    (fun f fn hf hfn => by
      obtain rfl : f = 3 := Option.some.inj ((show Tryd.prog.funcNamed "loop.example/parallelmoves/laws.FnMovesFor" = some 3 by kernel_rfl).symm.trans hf) |>.symm
      obtain rfl : fn = Tryd.f3 := (Option.some.inj (Tryd.func3.symm.trans hfn)).symm
      exact ⟨by kernel_rfl, fun j t ht => by
        rw [Tryd.params3] at ht
        rcases j with _ | j
        · obtain rfl : t = 22 := by simpa using ht.symm
          exact (show Tryd.prog.wantsStandIn 22 = false by kernel_rfl)
        · simp at ht⟩)
    (by kernel_rfl)
end fnMovesFor
end Go.Proofs.YtcpibkffeenehaaDoor
