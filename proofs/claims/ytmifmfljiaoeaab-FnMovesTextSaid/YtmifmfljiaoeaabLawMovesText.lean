/- Proved: for every input of the form's own reach the law FnMovesText answers true and its arguments read afterwards as before; no further condition. -/
import Derived.Test.YtmifmfljiaoeaabDrawF
import Derived.Test.YtmifmfljiaoeaabPrsI
import Derived.Test.YtmifmfljiaoeaabPmSame
import Derived.Test.YtmifmfljiaoeaabBytes
import Derived.Test.YtmifmfljiaoeaabHar
import Derived.Test.YtmifmfljiaoeaabOpen
namespace Go.Proofs.Ytmifmfljiaoeaab
open Go.RowKit Go.PM
set_option maxRecDepth 100000 in
set_option maxHeartbeats 3200000 in
theorem exMovesText (w : World) (v0 : Value) (n0 : Nat) (hv : RdB w w.heap.size v0 n0) (v1 : Value) (n1 : Nat) (hv1 : RdB w w.heap.size v1 n1) :
    Calls Try.prog 3 #[v0, v1] w fun e w' => e = .returned (.bool true) ∧ Below w.heap.size w w' := by
  have hv0 := hv
  have hv10 := hv1
  obtain ⟨A, cap, rfl, hc, hn, _⟩ := hv
  obtain ⟨A1, cap1, rfl, hc1, hn1, _⟩ := hv1
  by_cases hbig : 1048576 < n0
  · have t : decide ((n0 : Int) > 1048576) = true := by simp; omega
    go_enter Try.func3, Try.ntmps3
    go_wp2
    go_ret
    exact ⟨rfl, Below.refl _ _⟩
  have t : decide ((n0 : Int) > 1048576) = false := by simp; omega
  by_cases hbig1 : 1048576 < n1
  · have t1 : decide ((n1 : Int) > 1048576) = true := by simp; omega
    go_enter Try.func3, Try.ntmps3
    go_wp2
    go_ret
    exact ⟨rfl, Below.refl _ _⟩
  have t1 : decide ((n1 : Int) > 1048576) = false := by simp; omega
  have HD := Lib.hid (drawFormatMoves_c w _ n0 hv0)
  clear hv0
  go_enter Try.func3, Try.ntmps3
  go_wp2_with fail
  refine HD.out.mono ?_
  rintro e w1 ⟨u, xs, rfl, ho, ⟨hl, hz⟩, b1⟩
  have hs1 := b1.size
  have R1 : RdM w1 u xs := Rd.of_own ho
  have HZ : Hid (∀ m ∈ xs, m.1.size ≤ 9223372036854775807 ∧ m.2.size ≤ 9223372036854775807) := fun m hm => by have := hz m hm; omega
  have hms := msize_short hl hz
  have hfs := fmtB_size hl hz
  have hpf := prs_fmt xs
  have HPF := Lib.hid hpf
  clear HD ho hz hpf
  go_wp2_with fail
  refine (imFormatMoves_c xs u _ R1 (by omega)).mono ?_
  rintro e w2 ⟨rfl, h2⟩
  have b2 := b1.trans (h2.mono hs1)
  have hs2 := b2.size
  have R2 := R1.below h2
  have e1 : ((fmtB xs).toList != (fmtB xs).toList) = false := by simp
  go_wp2_with fail
  refine (imParseMoves_c (fmtB xs) _ (by omega)).mono ?_
  rintro e w3 ⟨v, rfl, ho3, h3⟩
  have b3 := b2.trans (h3.mono hs2)
  have hs3 := b3.size
  have R3 := R2.below h3
  have Q3 : RdM w3 v (prsM (fmtB xs)) := Rd.of_own ho3
  rw [HPF.out.1]
  clear R1 R2 h2 h3 b1 b2 ho3
  have HV0 := Lib.hid hv10
  clear hv10
  have HSF := Lib.hid (fun W (R : RdM W u xs) => spFormatMoves_c xs u W R HZ.out (by omega))
  have HIV := Lib.hid (fun W (R : RdM W u xs) => imMovesValid_c xs u W R)
  have HSV := Lib.hid (fun W (R : RdM W u xs) => spMovesValid_c xs u W R HZ.out (by omega))
  have HEQ : Hid (mvalid xs = true → ∀ W, RdM W v (prsM (fmtB xs)) → RdM W u xs → Calls Try.prog 15 #[v, u] W fun e w' => e = .returned (.bool true) ∧ Below W.heap.size W w') := fun h W P R => by
    rw [HPF.out.2 h] at P
    have := pmSame_c xs xs v u W P R
    rwa [show decide (xs = xs) = true by simp] at this
  clear HPF HZ hms hfs hl
  generalize prsM (fmtB xs) = zs at *
  generalize fmtB xs = tx at *
  generalize mvalid xs = mv at *
  cases mv
  case false =>
    go_wp2_with fail
    refine (HSF.out _ R3).mono ?_
    rintro e w4 ⟨rfl, h4⟩
    have b4 := b3.trans (h4.mono hs3)
    have hs4 := b4.size
    have R4 := R3.below h4
    clear h4 b3 R3 Q3
    go_wp2_with fail
    refine (HIV.out _ R4).mono ?_
    rintro e w5 ⟨rfl, h5⟩
    have b5 := b4.trans (h5.mono hs4)
    have hs5 := b5.size
    have R5 := R4.below h5
    clear h5 b4 R4
    go_wp2_with fail
    refine (HSV.out _ R5).mono ?_
    rintro e w6 ⟨rfl, h6⟩
    have b6 := b5.trans (h6.mono hs5)
    have hs6 := b6.size
    have R6 := R5.below h6
    clear h6 b5 R5
    go_wp2_with fail
    refine (HIV.out _ R6).mono ?_
    rintro e w8 ⟨rfl, h8⟩
    have b8 := b6.trans (h8.mono hs6)
    have hs8 := b8.size
    clear h8 b6 R6
    have HW := Lib.hid (drawParseMoves_c w8 _ n1 (HV0.out.now b8))
    go_wp2_with fail
    refine HW.out.mono ?_
    rintro e w9 ⟨s, rfl, hz9, h9⟩
    have b9 := b8.trans (h9.mono hs8)
    have hs9 := b9.size
    clear h9 b8 HW
    have HFP : Hid (prsOk s = true → ∀ W z, RdM W z (prsM s) → Calls Try.prog 10 #[z] W fun e w' => e = .returned (.string s) ∧ Below W.heap.size W w') := fun h W z R => by
      have hMV := prsM_MV s
      have := imFormatMoves_c (prsM s) z W R (by
        have := msize_short (xs := prsM s) (by have := MV_len hMV; omega) (fun m hm => by have := mok_size (hMV.1 m hm); omega)
        omega)
      rwa [fmt_prs h] at this
    have HI := Lib.hid (imParseMoves_c s w9 (by omega))
    have HS := Lib.hid (fun W => spParseMoves_c s W (by omega))
    have HE := Lib.hid (fun W z y (P : RdM W z (prsM s)) (R : RdM W y (prsM s)) => (pmSame_c (prsM s) (prsM s) z y W P R))
    have e9 : (s.toList == s.toList) = true := by simp
    simp only [show decide (prsM s = prsM s) = true by simp] at HE
    generalize prsM s = ps at *
    generalize prsOk s = po at *
    go_wp2_with fail
    refine HI.out.mono ?_
    rintro e wa ⟨va, rfl, oa, ha⟩
    have ba := b9.trans (ha.mono hs9)
    have hsa := ba.size
    have Pa : RdM wa va ps := Rd.of_own oa
    clear ha b9 HI oa
    go_wp2_with fail
    refine (HS.out _).mono ?_
    rintro e wb ⟨vb, rfl, ob, hb⟩
    have bb := ba.trans (hb.mono hsa)
    have hsb := bb.size
    have Pb := Pa.below hb
    have Qb : RdM wb vb ps := Rd.of_own ob
    clear hb ba HS ob Pa
    cases po
    case false =>
      go_wp2_with fail
      refine (HE.out _ _ _ Pb Qb).mono ?_
      rintro e wc ⟨rfl, hc⟩
      have bc := bb.trans (hc.mono hsb)
      clear hc bb
      go_wp2
      go_ret
      exact ⟨rfl, bc⟩
    case true =>
      go_wp2_with fail
      refine (HE.out _ _ _ Pb Qb).mono ?_
      rintro e wc ⟨rfl, hc⟩
      have bc := bb.trans (hc.mono hsb)
      have hsc := bc.size
      have Pc := Pb.below hc
      clear hc bb Pb Qb
      go_wp2_with fail
      refine (HFP.out trivial _ _ Pc).mono ?_
      rintro e wd ⟨rfl, hd⟩
      have bd := bc.trans (hd.mono hsc)
      clear hd bc
      go_wp2
      go_ret
      exact ⟨rfl, bd⟩
  case true =>
    go_wp2_with fail
    refine (HSF.out _ R3).mono ?_
    rintro e w4 ⟨rfl, h4⟩
    have b4 := b3.trans (h4.mono hs3)
    have hs4 := b4.size
    have R4 := R3.below h4
    have Q4 := Q3.below h4
    clear h4 b3 R3 Q3
    go_wp2_with fail
    refine (HIV.out _ R4).mono ?_
    rintro e w5 ⟨rfl, h5⟩
    have b5 := b4.trans (h5.mono hs4)
    have hs5 := b5.size
    have R5 := R4.below h5
    have Q5 := Q4.below h5
    clear h5 b4 R4 Q4
    go_wp2_with fail
    refine (HSV.out _ R5).mono ?_
    rintro e w6 ⟨rfl, h6⟩
    have b6 := b5.trans (h6.mono hs5)
    have hs6 := b6.size
    have R6 := R5.below h6
    have Q6 := Q5.below h6
    clear h6 b5 R5 Q5
    go_wp2_with fail
    refine (HIV.out _ R6).mono ?_
    rintro e w7 ⟨rfl, h7⟩
    have b7 := b6.trans (h7.mono hs6)
    have hs7 := b7.size
    have R7 := R6.below h7
    have Q7 := Q6.below h7
    clear h7 b6 R6 Q6
    go_wp2_with fail
    refine (HEQ.out trivial _ Q7 R7).mono ?_
    rintro e w8 ⟨rfl, h8⟩
    have b8 := b7.trans (h8.mono hs7)
    have hs8 := b8.size
    clear h8 b7 R7 Q7
    have HW := Lib.hid (drawParseMoves_c w8 _ n1 (HV0.out.now b8))
    go_wp2_with fail
    refine HW.out.mono ?_
    rintro e w9 ⟨s, rfl, hz9, h9⟩
    have b9 := b8.trans (h9.mono hs8)
    have hs9 := b9.size
    clear h9 b8 HW
    have HFP : Hid (prsOk s = true → ∀ W z, RdM W z (prsM s) → Calls Try.prog 10 #[z] W fun e w' => e = .returned (.string s) ∧ Below W.heap.size W w') := fun h W z R => by
      have hMV := prsM_MV s
      have := imFormatMoves_c (prsM s) z W R (by
        have := msize_short (xs := prsM s) (by have := MV_len hMV; omega) (fun m hm => by have := mok_size (hMV.1 m hm); omega)
        omega)
      rwa [fmt_prs h] at this
    have HI := Lib.hid (imParseMoves_c s w9 (by omega))
    have HS := Lib.hid (fun W => spParseMoves_c s W (by omega))
    have HE := Lib.hid (fun W z y (P : RdM W z (prsM s)) (R : RdM W y (prsM s)) => (pmSame_c (prsM s) (prsM s) z y W P R))
    have e9 : (s.toList == s.toList) = true := by simp
    simp only [show decide (prsM s = prsM s) = true by simp] at HE
    generalize prsM s = ps at *
    generalize prsOk s = po at *
    go_wp2_with fail
    refine HI.out.mono ?_
    rintro e wa ⟨va, rfl, oa, ha⟩
    have ba := b9.trans (ha.mono hs9)
    have hsa := ba.size
    have Pa : RdM wa va ps := Rd.of_own oa
    clear ha b9 HI oa
    go_wp2_with fail
    refine (HS.out _).mono ?_
    rintro e wb ⟨vb, rfl, ob, hb⟩
    have bb := ba.trans (hb.mono hsa)
    have hsb := bb.size
    have Pb := Pa.below hb
    have Qb : RdM wb vb ps := Rd.of_own ob
    clear hb ba HS ob Pa
    cases po
    case false =>
      go_wp2_with fail
      refine (HE.out _ _ _ Pb Qb).mono ?_
      rintro e wc ⟨rfl, hc⟩
      have bc := bb.trans (hc.mono hsb)
      clear hc bb
      go_wp2
      go_ret
      exact ⟨rfl, bc⟩
    case true =>
      go_wp2_with fail
      refine (HE.out _ _ _ Pb Qb).mono ?_
      rintro e wc ⟨rfl, hc⟩
      have bc := bb.trans (hc.mono hsb)
      have hsc := bc.size
      have Pc := Pb.below hc
      clear hc bb Pb Qb
      go_wp2_with fail
      refine (HFP.out trivial _ _ Pc).mono ?_
      rintro e wd ⟨rfl, hd⟩
      have bd := bc.trans (hd.mono hsc)
      clear hd bc
      go_wp2
      go_ret
      exact ⟨rfl, bd⟩

namespace fnMovesText
open Go.RowKit Go.PM Go.ChangeShapes Go.WideShapes Go.ChangeAt
open Go.ChangeMaps (open_string shut_string)
set_option maxRecDepth 100000 in
theorem lifted (os : Os) (started : os.Started) (H : Type) (enc : TypeId × Value → H) :
    ReturnsInHanded {} Try.checked os 3 .any (Rows.fnMovesTextSpec.pre6 enc Try.prog Try.f3 Rows.fnMovesTextRow.domain false) (Rows.fnMovesTextSpec.post enc Try.prog Try.f3 false true false false) := by
  refine returnsInHanded_of_change (C := Try.checked) own started (by kernel_rfl) Try.func3
    (ChangeSpec.witness6 (enc := enc) (C := Try.checked) false ⟨#[], #[.slice none 0 0, .slice none 0 0], []⟩ 8 (by kernel_rfl) (by kernel_rfl) (by kernel_rfl) (by kernel_rfl)) ?_
  intro W base args ds gs before hval0 hW hcnd _
  have hval : ∀ (j : Nat) t v, Try.f3.params[j]? = some t → args[j]? = some v → Value.okWide Try.prog W .any base t v := hval0
  have hW' := hW
  obtain ⟨p, q, hA0, hV, rfl, hfz, hnd⟩ := hW
  have hA : DataW.TrodAll enc Try.prog W 0 (fun _ => true) true Try.f3.params.toList args.toList ds p := hA0
  rw [Try.params3] at hA hval
  obtain ⟨v0, vs0, d0, ds0, p0, q0, hargs, rfl, rfl, h0, r0⟩ := trodAll_cons hA
  obtain ⟨v1, vs1, d1, ds1, p1, q1, rfl, rfl, rfl, h1, r1⟩ := trodAll_cons r0
  obtain ⟨rfl, rfl, rfl⟩ := trodAll_nil r1
  obtain rfl : args = #[v0, v1] := by cases args; simp_all
  obtain ⟨rfl, rfl⟩ := trodVars_none hV
  have k0 := h0
  have lt0 : ∀ x ∈ p0, x.block < W.heap.size := by obtain ⟨m, hm⟩ := k0; exact DataW.trod_lt m _ _ _ hm
  have k1 := h1
  have lt1 : ∀ x ∈ p1, x.block < W.heap.size := by obtain ⟨m, hm⟩ := k1; exact DataW.trod_lt m _ _ _ hm
  obtain ⟨a0, len0, cap0, rfl⟩ := okWide_slice Try.underlying22 (hval 0 22 v0 rfl rfl)
  have hx0 : RdB W W.heap.size (.slice a0 len0 cap0) len0 := by obtain ⟨fuel, hf⟩ := h0; exact open_bytes hf
  obtain ⟨a1, len1, cap1, rfl⟩ := okWide_slice Try.underlying22 (hval 1 22 v1 rfl rfl)
  have hx1 : RdB W W.heap.size (.slice a1 len1 cap1) len1 := by obtain ⟨fuel, hf⟩ := h1; exact open_bytes hf
  clear hA0 hval0
  refine (exMovesText W _ len0 hx0 _ len1 hx1).mono fun e W' ⟨he, bel⟩ => ?_
  subst he
  exact ⟨_, rfl, _, _, _, [], _, [], hW', trodAll_mk1 (shut_bool Try.underlying4 _), (trodAll_cons_mk (Below.trod laidOut (by kernel_rfl) (of_decide_eq_true (by kernel_rfl)) k0 bel lt0) (trodAll_cons_mk (Below.trod laidOut (by kernel_rfl) (of_decide_eq_true (by kernel_rfl)) k1 bel lt1) trodAll_mk0)), rfl, bel.frame _, fun h => by cases h⟩

theorem over : Rows.fnMovesTextRow.holds Try.pinned (OpenSpec.ofChange Rows.fnMovesTextSpec) :=
  OpenClaim.holds_of_wide 3 Try.f3 rfl rfl rfl rfl rfl rfl rfl ⟨rfl, rfl, rfl, rfl, rfl⟩ rfl rfl rfl rfl rfl (by kernel_rfl) Try.func3 (by kernel_rfl)
    (of_decide_eq_true (by kernel_rfl)) (by unfold Func.isWrapper; first | (rw [if_pos (by decide +kernel)]; kernel_rfl) | (rw [if_neg (by decide +kernel)]; exact ⟨rfl, rfl⟩))
    (fun os started H enc _ => lifted os started H enc)

/-- The statement. -/
theorem proved : Rows.FnMovesTextSaid := over
end fnMovesText
end Go.Proofs.Ytmifmfljiaoeaab
