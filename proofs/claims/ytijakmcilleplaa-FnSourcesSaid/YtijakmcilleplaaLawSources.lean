/- Proved: for every input of the form's own reach the law FnSources answers true and its argument reads afterwards as before; no further condition. -/
import Derived.Test.YtijakmcilleplaaHas
import Derived.Test.YtijakmcilleplaaHar
import Derived.Test.YtijakmcilleplaaOpen
namespace Go.Proofs.Ytijakmcilleplaa
open Go.RowKit Go.PM
set_option maxRecDepth 100000 in
set_option maxHeartbeats 3200000 in
theorem exSources (w : World) (v0 : Value) (n0 : Nat) (hv : RdB w w.heap.size v0 n0) :
    Calls Try.prog 4 #[v0] w fun e w' => e = .returned (.bool true) ∧ Below w.heap.size w w' := by
  have hv0 := hv
  obtain ⟨A, cap, rfl, hc, hn, _⟩ := hv
  by_cases hbig : 1048576 < n0
  · have t : decide ((n0 : Int) > 1048576) = true := by simp; omega
    go_enter Try.func4, Try.ntmps4
    go_wp2
    go_ret
    exact ⟨rfl, Below.refl _ _⟩
  have t : decide ((n0 : Int) > 1048576) = false := by simp; omega
  have HD := Lib.hid (drawReadersOf_c w _ n0 hv0)
  clear hv0
  go_enter Try.func4, Try.ntmps4
  go_wp2_with fail
  refine HD.out.mono ?_
  rintro e w1 ⟨u, xs, a, rfl, ho, ⟨hl, hz⟩, ha, b1⟩
  have hs1 := b1.size
  have R1 : RdM w1 u xs := Rd.of_own ho
  have HZ : Hid (∀ m ∈ xs, m.1.size ≤ 9223372036854775807 ∧ m.2.size ≤ 9223372036854775807) := fun m hm => by have := hz m hm; omega
  clear HD ho hz
  go_wp2_with fail
  refine (imReadersOf_c xs u a _ R1).mono ?_
  rintro e w2 ⟨rfl, h2⟩
  have b2 := b1.trans (h2.mono hs1)
  have hs2 := b2.size
  have R2 := R1.below h2
  go_wp2_with fail
  refine (spReadersOf_c xs u a _ R2 HZ.out (by omega)).mono ?_
  rintro e w3 ⟨rfl, h3⟩
  have b3 := b2.trans (h3.mono hs2)
  have hs3 := b3.size
  have R3 := R2.below h3
  go_wp2_with fail
  refine (imSourceOf_c xs u a _ R3).mono ?_
  rintro e w4 ⟨rfl, h4⟩
  have b4 := b3.trans (h4.mono hs3)
  have hs4 := b4.size
  have R4 := R3.below h4
  go_wp2_with fail
  refine (spSourceOf_c xs u a _ R4 HZ.out (by omega)).mono ?_
  rintro e w5 ⟨rfl, h5⟩
  have b5 := b4.trans (h5.mono hs4)
  have hs5 := b5.size
  have R5 := R4.below h5
  clear R1 R2 R3 R4 h2 h3 h4 h5 b1 b2 b3 b4
  rcases Bool.eq_false_or_eq_true (mvalid xs && isS a) with hrb | hrb
  · rw [Bool.and_eq_true] at hrb
    obtain ⟨hmv, hsa⟩ := hrb
    have HMV : Hid (MV xs) := by show MV xs; simpa [mvalid] using hmv
    have HRD : Hid (okS (mvalid xs && isS a) (rdrs xs a) = rdrs xs a) := by show _ = _; rw [hmv, hsa]; rfl
    have HSB : Hid ((mvalid xs && isP a) = isP a) := by show _ = _; rw [hmv, Bool.true_and]
    have HRB : Hid ((mvalid xs && isS a) = true) := by show _ = _; rw [hmv, hsa]; rfl
    have HSC : Hid (isP a = true → okS (isP a) (srcM xs a) = srcM xs a) := fun h => by rw [h]; rfl
    have HIM : ∀ (b : ByteArray) (W : World), isP b = true → Below w5.heap.size w5 W → Calls Try.prog 27 #[u, .string b] W fun e w' => e = .returned (.tuple #[.string (srcM xs b), .bool true]) ∧ Below W.heap.size W w' := fun b W hb hW => by
      have := imSourceOf_c xs u b W (R5.below hW)
      rw [hmv, hb] at this
      exact this
    have HIM2 := Lib.hid HIM
    have HIR : ∀ (b : ByteArray) (W : World), isS b = true → Below w5.heap.size w5 W → Calls Try.prog 25 #[u, .string b] W fun e w' => e = .returned (.tuple #[.string (rdrs xs b), .bool true]) ∧ Below W.heap.size W w' := fun b W hb hW => by
      have := imReadersOf_c xs u b W (R5.below hW)
      rw [hmv, hb] at this
      exact this
    have HIR2 := Lib.hid HIR
    have HRZ := rdrs_size xs a
    have HPA := Lib.hid (fun k hk => pmH_rdrs HMV.out a k hk)
    have HPS := Lib.hid (fun h h2 => pmH_source (xs := xs) HMV.out (a := a) h h2)
    have HSS := Lib.hid (fun h => srcM_isS (xs := xs) HMV.out (a := a) h)
    have HNP := Lib.hid nm_isP
    have HNM : Hid (∀ q, q < 9 → (ByteArray.mk #[97, 98, 99, 100, 101, 102, 65, 66, 67]).extract q (q+1) = nm q) := by
      show ∀ q, _
      intro q hq
      match q, hq with
      | 0, _ | 1, _ | 2, _ | 3, _ | 4, _ | 5, _ | 6, _ | 7, _ | 8, _ => decide +kernel
    clear HIM HIR hmv hsa
    rw [HRD.out, HRB.out, HSB.out]
    generalize okS (isP a) (srcM xs a) = sc at *
    generalize hrd : rdrs xs a = rd at *
    have e1 : (rd.toList == rd.toList) = true := by simp
    have e2 : (sc.toList == sc.toList) = true := by simp
    have e3 : (isP a == isP a) = true := by simp
    clear hrd
    generalize hpa : isP a = pa at *
    go_wp2
    go_loopw [14, 15, 16, 93] (fun _ _ _ i wr => ∃ (k : Nat), k ≤ 9 ∧ i = .int .i64 k ∧ Below w5.heap.size w5 wr) (fun _ _ _ i _ => 9 - (intOf i).toNat)
    case atStart => exact ⟨0, by omega, rfl, Below.refl _ _⟩
    case round =>
      obtain ⟨k, hk, rfl, hb⟩ := hrel
      have hbs := hb.size
      by_cases hlt : k < 9
      · have i1 : (k : Int) < 9 := by omega
        have hex := HNM.out k hlt
        have hpm := HPA.out k hlt
        have hisp := (nm_isP k hlt).1
        generalize nm k = q at *
        have HI := Lib.hid (HIM2.out q wr hisp hb)
        have HH := Lib.hid (fun W => pmHas_c rd q W (by omega))
        generalize srcM xs q = f at *
        have tf := beq_str f a
        have tq := beq_str q a
        generalize pmH rd q = hb0 at *
        go_wp2_with fail
        refine HI.out.mono ?_
        rintro e w6 ⟨rfl, hb6⟩
        have b6 := hb.trans (hb6.mono hbs)
        by_cases hfa : f = a
        · rw [decide_eq_true hfa] at tf hpm
          by_cases hqa : q = a
          · rw [decide_eq_true hqa] at tq
            rw [decide_eq_false (fun h => h hqa)] at hpm
            simp only [Bool.false_and] at hpm
            clear hfa hqa
            subst hpm
            go_wp2_with fail
            refine (HH.out _).mono ?_
            rintro e w7 ⟨rfl, hb7⟩
            go_wp2
            go_roundw
            case rel => exact ⟨k + 1, by omega, by go_num, b6.trans (hb7.mono b6.size)⟩
            case measure => simp [intOf] <;> omega
          · rw [decide_eq_false hqa] at tq
            rw [decide_eq_true hqa] at hpm
            simp only [Bool.true_and] at hpm
            clear hfa hqa
            subst hpm
            go_wp2_with fail
            refine (HH.out _).mono ?_
            rintro e w7 ⟨rfl, hb7⟩
            go_wp2
            go_roundw
            case rel => exact ⟨k + 1, by omega, by go_num, b6.trans (hb7.mono b6.size)⟩
            case measure => simp [intOf] <;> omega
        · rw [decide_eq_false hfa] at tf hpm
          simp only [Bool.and_false] at hpm
          clear hfa
          subst hpm
          go_wp2_with fail
          refine (HH.out _).mono ?_
          rintro e w7 ⟨rfl, hb7⟩
          go_wp2
          go_roundw
          case rel => exact ⟨k + 1, by omega, by go_num, b6.trans (hb7.mono b6.size)⟩
          case measure => simp [intOf] <;> omega
      · cases pa with
        | false =>
          go_wp2
          go_ret
          exact ⟨rfl, b5.trans (hb.mono hs5)⟩
        | true =>
          have hsc := HSC.out rfl
          subst hsc
          have HI := Lib.hid (HIR2.out (srcM xs a) wr (HSS.out rfl) hb)
          have HH := Lib.hid (fun W => pmHas_c (rdrs xs (srcM xs a)) a W (by have := rdrs_size xs (srcM xs a); omega))
          have HPS2 := Lib.hid (HPS.out rfl)
          generalize rdrs xs (srcM xs a) = rr at *
          generalize srcM xs a = f at *
          have tf := beq_str f a
          go_wp2_with fail
          refine HI.out.mono ?_
          rintro e w6 ⟨rfl, hb6⟩
          have b6 := hb.trans (hb6.mono hbs)
          by_cases hfa : f = a
          · rw [decide_eq_true hfa] at tf
            clear hfa
            go_wp2
            go_ret
            exact ⟨rfl, b5.trans (b6.mono hs5)⟩
          · have hp1 := HPS2.out hfa
            rw [decide_eq_false hfa] at tf
            clear hfa
            rw [hp1] at HH
            go_wp2_with fail
            refine (HH.out _).mono ?_
            rintro e w7 ⟨rfl, hb7⟩
            go_wp2
            go_ret
            exact ⟨rfl, b5.trans ((b6.trans (hb7.mono b6.size)).mono hs5)⟩
  · rw [hrb]
    generalize okS (mvalid xs && isP a) (srcM xs a) = sc at *
    generalize okS false (rdrs xs a) = rd at *
    generalize (mvalid xs && isP a) = sb at *
    have e1 : (rd.toList == rd.toList) = true := by simp
    have e2 : (sc.toList == sc.toList) = true := by simp
    have e3 : (sb == sb) = true := by simp
    go_wp2
    go_ret
    exact ⟨rfl, b5⟩


namespace fnSources
open Go.RowKit Go.PM Go.ChangeShapes Go.WideShapes Go.ChangeAt
open Go.ChangeMaps (open_string shut_string)
set_option maxRecDepth 100000 in
theorem lifted (os : Os) (started : os.Started) (H : Type) (enc : TypeId × Value → H) :
    ReturnsInHanded {} Try.checked os 4 .any (Rows.fnSourcesSpec.pre6 enc Try.prog Try.f4 Rows.fnSourcesRow.domain false) (Rows.fnSourcesSpec.post enc Try.prog Try.f4 false true false false) := by
  refine returnsInHanded_of_change (C := Try.checked) own started (by kernel_rfl) Try.func4
    (ChangeSpec.witness6 (enc := enc) (C := Try.checked) false ⟨#[], #[.slice none 0 0], []⟩ 8 (by kernel_rfl) (by kernel_rfl) (by kernel_rfl) (by kernel_rfl)) ?_
  intro W base args ds gs before hval0 hW hcnd _
  have hval : ∀ (j : Nat) t v, Try.f4.params[j]? = some t → args[j]? = some v → Value.okWide Try.prog W .any base t v := hval0
  have hW' := hW
  obtain ⟨p, q, hA0, hV, rfl, hfz, hnd⟩ := hW
  have hA : DataW.TrodAll enc Try.prog W 0 (fun _ => true) true Try.f4.params.toList args.toList ds p := hA0
  rw [Try.params4] at hA hval
  obtain ⟨v0, vs0, d0, ds0, p0, q0, hargs, rfl, rfl, h0, r0⟩ := trodAll_cons hA
  obtain ⟨rfl, rfl, rfl⟩ := trodAll_nil r0
  obtain rfl : args = #[v0] := by cases args; simp_all
  obtain ⟨rfl, rfl⟩ := trodVars_none hV
  have k0 := h0
  have lt0 : ∀ x ∈ p0, x.block < W.heap.size := by obtain ⟨m, hm⟩ := k0; exact DataW.trod_lt m _ _ _ hm
  obtain ⟨a0, len0, cap0, rfl⟩ := okWide_slice Try.underlying22 (hval 0 22 v0 rfl rfl)
  have hx0 : RdB W W.heap.size (.slice a0 len0 cap0) len0 := by obtain ⟨fuel, hf⟩ := h0; exact open_bytes hf
  clear hA0 hval0
  refine (exSources W _ len0 hx0).mono fun e W' ⟨he, bel⟩ => ?_
  subst he
  exact ⟨_, rfl, _, _, _, [], _, [], hW', trodAll_mk1 (shut_bool Try.underlying4 _), (trodAll_cons_mk (Below.trod laidOut (by kernel_rfl) (of_decide_eq_true (by kernel_rfl)) k0 bel lt0) trodAll_mk0), rfl, bel.frame _, fun h => by cases h⟩

theorem over : Rows.fnSourcesRow.holds Try.pinned (OpenSpec.ofChange Rows.fnSourcesSpec) :=
  OpenClaim.holds_of_wide 4 Try.f4 rfl rfl rfl rfl rfl rfl rfl ⟨rfl, rfl, rfl, rfl, rfl⟩ rfl rfl rfl rfl rfl (by kernel_rfl) Try.func4 (by kernel_rfl)
    (of_decide_eq_true (by kernel_rfl)) (by unfold Func.isWrapper; first | (rw [if_pos (by decide +kernel)]; kernel_rfl) | (rw [if_neg (by decide +kernel)]; exact ⟨rfl, rfl⟩))
    (fun os started H enc _ => lifted os started H enc)

/-- The statement. -/
theorem proved : Rows.FnSourcesSaid := over
end fnSources
end Go.Proofs.Ytijakmcilleplaa
