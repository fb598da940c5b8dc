/- Proved: for every input of the form's own reach the law FnAtOnce answers true and its argument reads afterwards as before; no further condition. -/
import Derived.Test.YtpbaomnhchljbaaPmI
import Derived.Test.YtpbaomnhchljbaaDrawS
import Derived.Test.YtpbaomnhchljbaaBytes
import Derived.Test.YtpbaomnhchljbaaSource
import Derived.Test.YtpbaomnhchljbaaHar
import Derived.Test.YtpbaomnhchljbaaOpen
namespace Go.Proofs.Ytpbaomnhchljbaa
open Go.RowKit Go.PM
set_option maxRecDepth 100000 in
set_option maxHeartbeats 3200000 in
theorem exAtOnce (w : World) (v0 : Value) (n0 : Nat) (hv : RdB w w.heap.size v0 n0) :
    Calls Try.prog 3 #[v0] w fun e w' => e = .returned (.bool true) ∧ Below w.heap.size w w' := by
  have hv0 := hv
  obtain ⟨A, cap, rfl, hc, hn, _⟩ := hv
  by_cases hbig : 1048576 < n0
  · have t : decide ((n0 : Int) > 1048576) = true := by simp; omega
    go_enter Try.func3, Try.ntmps3
    go_wp2
    go_ret
    exact ⟨rfl, Below.refl _ _⟩
  have t : decide ((n0 : Int) > 1048576) = false := by simp; omega
  have HD := Lib.hid (drawAtOnce_c w _ n0 hv0)
  clear hv0
  go_enter Try.func3, Try.ntmps3
  go_wp2_with fail
  refine HD.out.mono ?_
  rintro e w1 ⟨u, xs, s, rfl, ho, ⟨hl, hz⟩, hs, b1⟩
  have hs1 := b1.size
  have R1 : RdM w1 u xs := Rd.of_own ho
  have HZ : Hid (∀ m ∈ xs, m.1.size ≤ 9223372036854775807 ∧ m.2.size ≤ 9223372036854775807) := fun m hm => by have := hz m hm; omega
  clear HD ho hz
  go_wp2_with fail
  refine (imAtOnce_c xs u s _ R1 (by omega)).mono ?_
  rintro e w2 ⟨rfl, h2⟩
  have b2 := b1.trans (h2.mono hs1)
  have hs2 := b2.size
  have R2 := R1.below h2
  go_wp2_with fail
  refine (spAtOnce_c xs u s _ R2 HZ.out (by omega) (by omega)).mono ?_
  rintro e w0 ⟨rfl, h3⟩
  have B0 := b2.trans (h3.mono hs2)
  have hs0 := B0.size
  have R0 := R2.below h3
  have b5 : Below w0.heap.size w0 w0 := Below.refl _ _
  clear R1 R2 h2 h3 b1 b2
  have HM := Lib.hid (fun W (hW : Below w0.heap.size w0 W) => imMovesValid_c xs u W (R0.below hW))
  have HS := Lib.hid (fun W => imStateValid_c s W (by omega))
  have HT := Lib.hid (fun W => spStateValid_c s W (by omega))
  rcases Bool.eq_false_or_eq_true (mvalid xs) with hmv | hmv
  · rcases Bool.eq_false_or_eq_true (stateV s) with hsv | hsv
    · have HMV : Hid (MV xs) := by show MV xs; simpa [mvalid] using hmv
      have hss := (stateV_of hsv).1
      have HO : Hid (aoB xs s = stB (aoS (tabOf xs) (ofB s))) := by show _ = _; rw [aoB, hmv, hsv]; rfl
      have HAV := Lib.hid (ao_valid HMV.out hsv)
      have HAC := Lib.hid (fun k hk => ao_cell HMV.out (ofB s) k hk)
      have HSC := Lib.hid (fun k hk => ofB_cell hss k hk)
      have htl := ao_tail (xs := xs) hss
      have HIM : ∀ (b : ByteArray) (W : World), isP b = true → Below w0.heap.size w0 W → Calls Try.prog 18 #[u, .string b] W fun e w' => e = .returned (.tuple #[.string (srcM xs b), .bool true]) ∧ Below W.heap.size W w' := fun b W hb hW => by
        have := imSourceOf_c xs u b W (R0.below hW)
        rw [hmv, hb] at this
        exact this
      have HIM2 := Lib.hid HIM
      have HSS := Lib.hid (fun b hb => srcM_S (xs := xs) HMV.out (a := b) hb)
      have HNM : Hid (∀ q, q < 9 → (ByteArray.mk #[97, 98, 99, 100, 101, 102, 65, 66, 67]).extract q (q+1) = nm q) := by
        show ∀ q, _
        intro q hq
        match q, hq with
        | 0, _ | 1, _ | 2, _ | 3, _ | 4, _ | 5, _ | 6, _ | 7, _ | 8, _ => decide +kernel
      clear HIM
      rw [hmv] at HM
      rw [hsv] at HS HT
      rw [HO.out, hmv, hsv]
      have hos : (stB (aoS (tabOf xs) (ofB s))).size = 11 := rfl
      generalize stB (aoS (tabOf xs) (ofB s)) = o at *
      have e1 : (o.toList == o.toList) = true := by simp
      clear hmv hsv HO
      go_wp2_with fail
      refine (HM.out _ b5).mono ?_
      rintro e w6 ⟨rfl, h6⟩
      have b6 := b5.trans (h6.mono b5.size)
      go_wp2_with fail
      refine (HS.out _).mono ?_
      rintro e w7 ⟨rfl, h7⟩
      have b7 := b6.trans (h7.mono b6.size)
      go_wp2_with fail
      refine (HS.out _).mono ?_
      rintro e w8 ⟨rfl, h8⟩
      have b8 := b7.trans (h8.mono b7.size)
      go_wp2_with fail
      refine (HT.out _).mono ?_
      rintro e w9 ⟨rfl, rfl⟩
      have b9 := b8
      clear HM HS HT
      go_wp2
      go_loopw [10, 11, 12, 13, 14, 95] (fun _ _ _ _ _ i wr => ∃ (k : Nat), k ≤ 9 ∧ i = .int .i64 k ∧ Below w0.heap.size w0 wr) (fun _ _ _ _ _ i _ => 9 - (intOf i).toNat)
      case atStart => exact ⟨0, by omega, rfl, b9⟩
      case round =>
        obtain ⟨k, hk, rfl, hb⟩ := hrel
        have hbs := hb.size
        by_cases hlt : k < 9
        · have i1 : (k : Int) < 9 := by omega
          have hex := HNM.out k hlt
          have hoc := HAC.out k hlt
          have hisp := isP_nm hlt
          have hS := HSS.out _ hisp
          have HI := Lib.hid (HIM2.out (nm k) wr hisp hb)
          generalize srcM xs (nm k) = f at *
          generalize nm k = q at *
          go_wp2_with fail
          refine HI.out.mono ?_
          rintro e wa ⟨rfl, hba⟩
          have ba := hb.trans (hba.mono hbs)
          rcases Bool.eq_false_or_eq_true (isP f) with hp | hp
          · have hpi : pmI f = ((pidx f : Nat) : Int) := if_pos hp
            have hj := (pidx_spec hp).1
            have hsc := HSC.out (pidx f) (by omega)
            rw [rdS_value hp] at hoc
            have HX := Lib.hid (fun W => pmIndex_c f W)
            rw [hpi] at HX
            generalize pidx f = j at *
            generalize (⟨#[ofB s j]⟩ : ByteArray) = vv at *
            have tv : (vv.toList == vv.toList) = true := by simp
            have j1 : (j : Int) < 9 := by omega
            clear hpi hp hS HSC HAC HSS HIM2 HAV HMV
            go_wp2_with fail
            refine (HX.out _).mono ?_
            rintro e wb ⟨rfl, hbb⟩
            go_wp2
            go_roundw
            case rel => exact ⟨k + 1, by omega, by go_num, ba.trans (hbb.mono ba.size)⟩
            case measure => simp [intOf] <;> omega
          · have hpi : pmI f = -1 := if_neg (by rw [hp]; decide)
            have hv := rdS_dig (f := ofB s) hS hp
            rw [hv] at hoc
            have HX := Lib.hid (fun W => pmIndex_c f W)
            rw [hpi] at HX
            have tv : (f.toList == f.toList) = true := by simp
            clear hpi hp hS hv HSC HAC HSS HIM2 HAV HMV
            go_wp2_with fail
            refine (HX.out _).mono ?_
            rintro e wb ⟨rfl, hbb⟩
            go_wp2
            go_roundw
            case rel => exact ⟨k + 1, by omega, by go_num, ba.trans (hbb.mono ba.size)⟩
            case measure => simp [intOf] <;> omega
        · have hE := fun W => imStateValid_c o W (by omega)
          rw [HAV.out] at hE
          generalize htl2 : s.extract 9 11 = tl at *
          have tv : (tl.toList == tl.toList) = true := by simp
          clear HSC HAC HSS HIM2 HAV HMV HNM
          go_wp2
          refine wp_region_ext wr.heap.size (by kernel_rfl) (by kernel_rfl) ?_
          repeat (go_big_quiet_step ((go_at_call 16; exact ext_call _ (Nat.le_refl _) (hE _))))
          refine wpQuiet_nil ?_
          intro w2 hw'
          obtain ⟨xw, hxw⟩ := hw'
          have hb2 := xw.property
          rw [← hxw] at hb2
          clear hxw xw
          go_wp2
          go_ret
          exact ⟨rfl, B0.trans ((hb.trans (hb2.mono hbs)).mono hs0)⟩
    · have HO : Hid (aoB xs s = ⟨#[]⟩) := by show _ = _; rw [aoB, hsv, Bool.and_false]; rfl
      rw [hmv] at HM
      rw [hsv] at HS HT
      rw [HO.out, hmv, hsv]
      clear hmv hsv HO
      go_wp2_with fail
      refine (HM.out _ b5).mono ?_
      rintro e w6 ⟨rfl, h6⟩
      have b6 := b5.trans (h6.mono b5.size)
      go_wp2_with fail
      refine (HS.out _).mono ?_
      rintro e w7 ⟨rfl, h7⟩
      have b7 := b6.trans (h7.mono b6.size)
      go_wp2_with fail
      refine (HS.out _).mono ?_
      rintro e w8 ⟨rfl, h8⟩
      have b8 := b7.trans (h8.mono b7.size)
      go_wp2_with fail
      refine (HT.out _).mono ?_
      rintro e w9 ⟨rfl, rfl⟩
      have b9 := b8
      go_wp2_with fail
      refine (HM.out _ b9).mono ?_
      rintro e w10 ⟨rfl, h10⟩
      have b10 := b9.trans (h10.mono b9.size)
      go_wp2_with fail
      refine (HS.out _).mono ?_
      rintro e w11 ⟨rfl, h11⟩
      have b11 := b10.trans (h11.mono b10.size)
      go_wp2_with fail
      refine (HS.out _).mono ?_
      rintro e w12 ⟨rfl, h12⟩
      have b12 := b11.trans (h12.mono b11.size)
      go_wp2_with fail
      refine (HT.out _).mono ?_
      rintro e w13 ⟨rfl, rfl⟩
      have b13 := b12
      go_wp2
      go_ret
      exact ⟨rfl, B0.trans (b13.mono hs0)⟩
  · have HO : Hid (aoB xs s = ⟨#[]⟩) := by show _ = _; rw [aoB, hmv, Bool.false_and]; rfl
    rw [hmv] at HM
    rw [HO.out, hmv, Bool.false_and]
    clear hmv HO
    generalize stateV s = sv at *
    have e3 : (sv == sv) = true := by simp
    go_wp2_with fail
    refine (HM.out _ b5).mono ?_
    rintro e w6 ⟨rfl, h6⟩
    have b6 := b5.trans (h6.mono b5.size)
    go_wp2_with fail
    refine (HS.out _).mono ?_
    rintro e w7 ⟨rfl, h7⟩
    have b7 := b6.trans (h7.mono b6.size)
    go_wp2_with fail
    refine (HT.out _).mono ?_
    rintro e w8 ⟨rfl, rfl⟩
    have b8 := b7
    go_wp2_with fail
    refine (HM.out _ b8).mono ?_
    rintro e w9 ⟨rfl, h9⟩
    have b9 := b8.trans (h9.mono b8.size)
    go_wp2_with fail
    refine (HS.out _).mono ?_
    rintro e w10 ⟨rfl, h10⟩
    have b10 := b9.trans (h10.mono b9.size)
    go_wp2_with fail
    refine (HT.out _).mono ?_
    rintro e w11 ⟨rfl, rfl⟩
    have b11 := b10
    go_wp2
    go_ret
    exact ⟨rfl, B0.trans (b11.mono hs0)⟩

namespace fnAtOnce
open Go.RowKit Go.PM Go.ChangeShapes Go.WideShapes Go.ChangeAt
open Go.ChangeMaps (open_string shut_string)
set_option maxRecDepth 100000 in
theorem lifted (os : Os) (started : os.Started) (H : Type) (enc : TypeId × Value → H) :
    ReturnsInHanded {} Try.checked os 3 .any (Rows.fnAtOnceSpec.pre6 enc Try.prog Try.f3 Rows.fnAtOnceRow.domain false) (Rows.fnAtOnceSpec.post enc Try.prog Try.f3 false true false false) := by
  refine returnsInHanded_of_change (C := Try.checked) own started (by kernel_rfl) Try.func3
    (ChangeSpec.witness6 (enc := enc) (C := Try.checked) false ⟨#[], #[.slice none 0 0], []⟩ 8 (by kernel_rfl) (by kernel_rfl) (by kernel_rfl) (by kernel_rfl)) ?_
  intro W base args ds gs before hval0 hW hcnd _
  have hval : ∀ (j : Nat) t v, Try.f3.params[j]? = some t → args[j]? = some v → Value.okWide Try.prog W .any base t v := hval0
  have hW' := hW
  obtain ⟨p, q, hA0, hV, rfl, hfz, hnd⟩ := hW
  have hA : DataW.TrodAll enc Try.prog W 0 (fun _ => true) true Try.f3.params.toList args.toList ds p := hA0
  rw [Try.params3] at hA hval
  obtain ⟨v0, vs0, d0, ds0, p0, q0, hargs, rfl, rfl, h0, r0⟩ := trodAll_cons hA
  obtain ⟨rfl, rfl, rfl⟩ := trodAll_nil r0
  obtain rfl : args = #[v0] := by cases args; simp_all
  obtain ⟨rfl, rfl⟩ := trodVars_none hV
  have k0 := h0
  have lt0 : ∀ x ∈ p0, x.block < W.heap.size := by obtain ⟨m, hm⟩ := k0; exact DataW.trod_lt m _ _ _ hm
  obtain ⟨a0, len0, cap0, rfl⟩ := okWide_slice Try.underlying22 (hval 0 22 v0 rfl rfl)
  have hx0 : RdB W W.heap.size (.slice a0 len0 cap0) len0 := by obtain ⟨fuel, hf⟩ := h0; exact open_bytes hf
  clear hA0 hval0
  refine (exAtOnce W _ len0 hx0).mono fun e W' ⟨he, bel⟩ => ?_
  subst he
  exact ⟨_, rfl, _, _, _, [], _, [], hW', trodAll_mk1 (shut_bool Try.underlying4 _), (trodAll_cons_mk (Below.trod laidOut (by kernel_rfl) (of_decide_eq_true (by kernel_rfl)) k0 bel lt0) trodAll_mk0), rfl, bel.frame _, fun h => by cases h⟩

theorem over : Rows.fnAtOnceRow.holds Try.pinned (OpenSpec.ofChange Rows.fnAtOnceSpec) :=
  OpenClaim.holds_of_wide 3 Try.f3 rfl rfl rfl rfl rfl rfl rfl ⟨rfl, rfl, rfl, rfl, rfl⟩ rfl rfl rfl rfl rfl (by kernel_rfl) Try.func3 (by kernel_rfl)
    (of_decide_eq_true (by kernel_rfl)) (by unfold Func.isWrapper; first | (rw [if_pos (by decide +kernel)]; kernel_rfl) | (rw [if_neg (by decide +kernel)]; exact ⟨rfl, rfl⟩))
    (fun os started H enc _ => lifted os started H enc)

/-- The statement. -/
theorem proved : Rows.FnAtOnceSaid := over
end fnAtOnce

end Go.Proofs.Ytpbaomnhchljbaa
