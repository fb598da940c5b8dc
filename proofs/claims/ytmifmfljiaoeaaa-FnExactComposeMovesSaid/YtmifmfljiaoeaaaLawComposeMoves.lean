/- Proved: for every input of the form's own reach the law FnExactComposeMoves answers true and its arguments read afterwards as before; no further condition. -/
import Derived.Test.YtmifmfljiaoeaaaCompI
import Derived.Test.YtmifmfljiaoeaaaMark
import Derived.Test.YtmifmfljiaoeaaaHar
import Derived.Test.YtmifmfljiaoeaaaOpen
namespace Go.Proofs.Ytmifmfljiaoeaaa
open Go.RowKit Go.PM
set_option maxRecDepth 100000 in
set_option maxHeartbeats 6400000 in
theorem exComposeMoves (w : World) (xs0 : List Mv) (v0 : Value) (hx0 : RdM w v0 xs0) (hz0 : ∀ m ∈ xs0, m.1.size ≤ 9223372036854775807 ∧ m.2.size ≤ 9223372036854775807) (xs1 : List Mv) (v1 : Value) (hx1 : RdM w v1 xs1) (hz1 : ∀ m ∈ xs1, m.1.size ≤ 9223372036854775807 ∧ m.2.size ≤ 9223372036854775807) :
    Calls Try.prog 6 #[v0, v1] w fun e w' => e = .returned (.bool true) ∧ Below w.heap.size w w' := by
  obtain ⟨ys, hys⟩ : ∃ ys, ys = compM xs0 xs1 := ⟨_, rfl⟩
  have hly : ys.length ≤ 1048576 := by rw [hys]; exact (Nat.le_trans (compM_len xs0 xs1) (by decide))
  have HYS := Lib.hid hys
  clear hys
  go_enter Try.func6, Try.ntmps6
  go_wp2_with fail
  refine (szMoveS_c xs0 v0 1048576 _ (by decide) (by decide) hx0 hz0).mono ?_
  rintro e w1 ⟨⟨r0, rfl, hr0, hq0⟩, Hw1⟩
  have HR0 := Lib.hid hr0
  clear hr0
  have Bw1 := Hw1
  have Zw1 := Bw1.size
  by_cases hneg0 : r0 < 0
  · go_wp2
    go_ret
    exact ⟨rfl, Bw1⟩
  have hl0 : xs0.length ≤ 1048576 := by have := HR0.out (by omega); have := msize_len xs0; omega
  go_wp2_with fail
  refine (szMoveS_c xs1 v1 r0 _ (by omega) (by omega) (hx1.below Bw1) hz1).mono ?_
  rintro e w2 ⟨⟨r1, rfl, hr1, hq1⟩, Hw2⟩
  have HR1 := Lib.hid hr1
  clear hr1
  have Bw2 : Below w.heap.size w w2 := Bw1.trans (Hw2.mono Zw1)
  have Zw2 := Bw2.size
  by_cases hneg1 : r1 < 0
  · go_wp2
    go_ret
    exact ⟨rfl, Bw2⟩
  have hl1 : xs1.length ≤ 1048576 := by have := HR1.out (by omega); have := msize_len xs1; omega
  go_wp2_with fail
  refine (toMoveS_c xs0 v0 _ (hx0.below Bw2) hl0).mono ?_
  rintro e w3 ⟨c0, rfl, o_c0, Hw3⟩
  have Bw3 : Below w.heap.size w w3 := Bw2.trans (Hw3.mono Zw2)
  have Zw3 := Bw3.size
  go_wp2_with fail
  refine (toMoveS_c xs1 v1 _ (hx1.below Bw3) hl1).mono ?_
  rintro e w4 ⟨c1, rfl, o_c1, Hw4⟩
  have ne_c0_c1 := own_ne o_c0 o_c1 (Nat.le_refl _)
  have Bw4 : Below w.heap.size w w4 := Bw3.trans (Hw4.mono Zw3)
  have Zw4 := Bw4.size
  have c0_w4 := own_keep o_c0 Hw4
  go_wp2_with fail
  refine (spComposeMoves_c xs0 xs1 c0 c1 _ (Rd.of_own c0_w4) (Rd.of_own o_c1) hz0 hl0 hz1 hl1).mono ?_
  rw [show compM xs0 xs1 = ys from HYS.out.symm]
  rintro e w5 ⟨s, rfl, o_s, Hw5⟩
  have ne_c0_s := own_ne c0_w4 o_s (Nat.le_refl _)
  have ne_c1_s := own_ne o_c1 o_s (Nat.le_refl _)
  have Bw5 : Below w.heap.size w w5 := Bw4.trans (Hw5.mono Zw4)
  have Zw5 := Bw5.size
  have c0_w5 := own_keep c0_w4 Hw5
  have c1_w5 := own_keep o_c1 Hw5
  go_wp2_with fail
  refine (toMoveS_c xs0 v0 _ (hx0.below Bw5) hl0).mono ?_
  rintro e w6 ⟨x0, rfl, o_x0, Hw6⟩
  have ne_s_x0 := own_ne o_s o_x0 (Nat.le_refl _)
  have Bw6 : Below w.heap.size w w6 := Bw5.trans (Hw6.mono Zw5)
  have Zw6 := Bw6.size
  have s_w6 := own_keep o_s Hw6
  go_wp2_with fail
  refine (toMoveS_c xs1 v1 _ (hx1.below Bw6) hl1).mono ?_
  rintro e w7 ⟨x1, rfl, o_x1, Hw7⟩
  have ne_s_x1 := own_ne s_w6 o_x1 (Nat.le_refl _)
  have ne_x0_x1 := own_ne o_x0 o_x1 (Nat.le_refl _)
  have Bw7 : Below w.heap.size w w7 := Bw6.trans (Hw7.mono Zw6)
  have Zw7 := Bw7.size
  have s_w7 := own_keep s_w6 Hw7
  have x0_w7 := own_keep o_x0 Hw7
  go_wp2_with fail
  refine (imComposeMoves_c xs0 xs1 x0 x1 _ (Rd.of_own x0_w7) (Rd.of_own o_x1)).mono ?_
  rw [show compM xs0 xs1 = ys from HYS.out.symm]
  rintro e w8 ⟨g, rfl, o_g, Hw8⟩
  have ne_s_g := own_ne s_w7 o_g (Nat.le_refl _)
  have ne_x0_g := own_ne x0_w7 o_g (Nat.le_refl _)
  have ne_x1_g := own_ne o_x1 o_g (Nat.le_refl _)
  have Bw8 : Below w.heap.size w w8 := Bw7.trans (Hw8.mono Zw7)
  have Zw8 := Bw8.size
  have s_w8 := own_keep s_w7 Hw8
  have x0_w8 := own_keep x0_w7 Hw8
  have x1_w8 := own_keep o_x1 Hw8
  go_wp2_with fail
  refine (eqMoveS_c ys ys g s _ (Rd.of_own o_g) (Rd.of_own s_w8)).mono ?_
  rintro e w9 ⟨he, Hw9⟩
  rw [show decide (ys = ys) = true by simp] at he
  subst he
  have Bw9 : Below w.heap.size w w9 := Bw8.trans (Hw9.mono Zw8)
  have Zw9 := Bw9.size
  have s_w9 := own_keep s_w8 Hw9
  have x0_w9 := own_keep x0_w8 Hw9
  have x1_w9 := own_keep x1_w8 Hw9
  have g_w9 := own_keep o_g Hw9
  go_wp2_with fail
  refine (toMoveS_c xs0 v0 _ (hx0.below Bw9) hl0).mono ?_
  rintro e w10 ⟨t0, rfl, o_t0, Hw10⟩
  have ne_s_t0 := own_ne s_w9 o_t0 (Nat.le_refl _)
  have ne_x0_t0 := own_ne x0_w9 o_t0 (Nat.le_refl _)
  have ne_x1_t0 := own_ne x1_w9 o_t0 (Nat.le_refl _)
  have ne_g_t0 := own_ne g_w9 o_t0 (Nat.le_refl _)
  have Bw10 : Below w.heap.size w w10 := Bw9.trans (Hw10.mono Zw9)
  have Zw10 := Bw10.size
  have s_w10 := own_keep s_w9 Hw10
  have x0_w10 := own_keep x0_w9 Hw10
  have x1_w10 := own_keep x1_w9 Hw10
  have g_w10 := own_keep g_w9 Hw10
  go_wp2_with fail
  refine (eqMoveS_c xs0 xs0 x0 t0 _ (Rd.of_own x0_w10) (Rd.of_own o_t0)).mono ?_
  rintro e w11 ⟨he, Hw11⟩
  rw [show decide (xs0 = xs0) = true by simp] at he
  subst he
  have Bw11 : Below w.heap.size w w11 := Bw10.trans (Hw11.mono Zw10)
  have Zw11 := Bw11.size
  have s_w11 := own_keep s_w10 Hw11
  have x0_w11 := own_keep x0_w10 Hw11
  have x1_w11 := own_keep x1_w10 Hw11
  have g_w11 := own_keep g_w10 Hw11
  have t0_w11 := own_keep o_t0 Hw11
  go_wp2_with fail
  refine (toMoveS_c xs1 v1 _ (hx1.below Bw11) hl1).mono ?_
  rintro e w12 ⟨t1, rfl, o_t1, Hw12⟩
  have ne_s_t1 := own_ne s_w11 o_t1 (Nat.le_refl _)
  have ne_x0_t1 := own_ne x0_w11 o_t1 (Nat.le_refl _)
  have ne_x1_t1 := own_ne x1_w11 o_t1 (Nat.le_refl _)
  have ne_g_t1 := own_ne g_w11 o_t1 (Nat.le_refl _)
  have Bw12 : Below w.heap.size w w12 := Bw11.trans (Hw12.mono Zw11)
  have Zw12 := Bw12.size
  have s_w12 := own_keep s_w11 Hw12
  have x0_w12 := own_keep x0_w11 Hw12
  have x1_w12 := own_keep x1_w11 Hw12
  have g_w12 := own_keep g_w11 Hw12
  go_wp2_with fail
  refine (eqMoveS_c xs1 xs1 x1 t1 _ (Rd.of_own x1_w12) (Rd.of_own o_t1)).mono ?_
  rintro e w13 ⟨he, Hw13⟩
  rw [show decide (xs1 = xs1) = true by simp] at he
  subst he
  have Bw13 : Below w.heap.size w w13 := Bw12.trans (Hw13.mono Zw12)
  have Zw13 := Bw13.size
  have s_w13 := own_keep s_w12 Hw13
  have x0_w13 := own_keep x0_w12 Hw13
  have x1_w13 := own_keep x1_w12 Hw13
  have g_w13 := own_keep g_w12 Hw13
  have t1_w13 := own_keep o_t1 Hw13
  go_wp2_with fail
  refine (markMoveS_c xs0 x0 _ 1 _ x0_w13 hl0 (by omega) (by omega)).mono ?_
  rintro e w14 ⟨rfl, _, Hw14⟩
  have Bw14 := Bw13.trans (below_grown Hw14 (B := w.heap.size) Zw13 (fun g hg => by have := own_block_ge o_x0 g hg; omega))
  have Zw14 := Bw14.size
  have Yw14 := Hw14.size
  have s_w14 := own_grown s_w13 Hw14 ne_s_x0
  have x1_w14 := own_grown x1_w13 Hw14 (ne_turn ne_x0_x1)
  have g_w14 := own_grown g_w13 Hw14 (ne_turn ne_x0_g)
  go_wp2_with fail
  refine (markMoveS_c xs1 x1 _ (1 + 2 * (xs0.length : Int)) _ x1_w14 hl1 (by omega) (by omega)).mono ?_
  rintro e w15 ⟨rfl, _, Hw15⟩
  have Bw15 := Bw14.trans (below_grown Hw15 (B := w.heap.size) Zw14 (fun g hg => by have := own_block_ge o_x1 g hg; omega))
  have Zw15 := Bw15.size
  have Yw15 := Hw15.size
  have s_w15 := own_grown s_w14 Hw15 ne_s_x1
  have g_w15 := own_grown g_w14 Hw15 (ne_turn ne_x1_g)
  go_wp2_with fail
  refine (eqMoveS_c ys ys g s _ (Rd.of_own g_w15) (Rd.of_own s_w15)).mono ?_
  rintro e w16 ⟨he, Hw16⟩
  rw [show decide (ys = ys) = true by simp] at he
  subst he
  have Bw16 : Below w.heap.size w w16 := Bw15.trans (Hw16.mono Zw15)
  have Zw16 := Bw16.size
  have s_w16 := own_keep s_w15 Hw16
  have g_w16 := own_keep g_w15 Hw16
  go_wp2_with fail
  refine (markMoveS_c ys g _ 1 _ g_w16 hly (by omega) (by omega)).mono ?_
  rintro e w17 ⟨rfl, om_g, Hw17⟩
  have Bw17 := Bw16.trans (below_grown Hw17 (B := w.heap.size) Zw16 (fun g hg => by have := own_block_ge o_g g hg; omega))
  have Zw17 := Bw17.size
  have Yw17 := Hw17.size
  have s_w17 := own_grown s_w16 Hw17 ne_s_g
  have k_w17 : RdM w17 g (marks ys.length 1) := by
    have := Rd.of_own om_g
    unfold RdM; rw [marks_length]; exact this
  go_wp2_with fail
  refine (heldMoveS_c ys.length g 1 _ k_w17 hly (by decide) (by decide)).mono ?_
  rintro e w18 ⟨rfl, Hw18⟩
  have Bw18 : Below w.heap.size w w18 := Bw17.trans (Hw18.mono Zw17)
  have Zw18 := Bw18.size
  have s_w18 := own_keep s_w17 Hw18
  have k_w18 := k_w17.below Hw18
  go_wp2_with fail
  refine (toMoveS_c xs0 v0 _ (hx0.below Bw18) hl0).mono ?_
  rintro e w19 ⟨d0, rfl, o_d0, Hw19⟩
  have ne_s_d0 := own_ne s_w18 o_d0 (Nat.le_refl _)
  have Bw19 : Below w.heap.size w w19 := Bw18.trans (Hw19.mono Zw18)
  have Zw19 := Bw19.size
  have s_w19 := own_keep s_w18 Hw19
  have k_w19 := k_w18.below Hw19
  go_wp2_with fail
  refine (toMoveS_c xs1 v1 _ (hx1.below Bw19) hl1).mono ?_
  rintro e w20 ⟨d1, rfl, o_d1, Hw20⟩
  have ne_s_d1 := own_ne s_w19 o_d1 (Nat.le_refl _)
  have ne_d0_d1 := own_ne o_d0 o_d1 (Nat.le_refl _)
  have Bw20 : Below w.heap.size w w20 := Bw19.trans (Hw20.mono Zw19)
  have Zw20 := Bw20.size
  have s_w20 := own_keep s_w19 Hw20
  have d0_w20 := own_keep o_d0 Hw20
  have k_w20 := k_w19.below Hw20
  go_wp2_with fail
  refine (imComposeMoves_c xs0 xs1 d0 d1 _ (Rd.of_own d0_w20) (Rd.of_own o_d1)).mono ?_
  rw [show compM xs0 xs1 = ys from HYS.out.symm]
  rintro e w21 ⟨h, rfl, o_h, Hw21⟩
  have ne_s_h := own_ne s_w20 o_h (Nat.le_refl _)
  have ne_d0_h := own_ne d0_w20 o_h (Nat.le_refl _)
  have ne_d1_h := own_ne o_d1 o_h (Nat.le_refl _)
  have Bw21 : Below w.heap.size w w21 := Bw20.trans (Hw21.mono Zw20)
  have Zw21 := Bw21.size
  have s_w21 := own_keep s_w20 Hw21
  have d0_w21 := own_keep d0_w20 Hw21
  have d1_w21 := own_keep o_d1 Hw21
  have k_w21 := k_w20.below Hw21
  go_wp2_with fail
  refine (eqMoveS_c ys ys h s _ (Rd.of_own o_h) (Rd.of_own s_w21)).mono ?_
  rintro e w22 ⟨he, Hw22⟩
  rw [show decide (ys = ys) = true by simp] at he
  subst he
  have Bw22 : Below w.heap.size w w22 := Bw21.trans (Hw22.mono Zw21)
  have Zw22 := Bw22.size
  have s_w22 := own_keep s_w21 Hw22
  have h_w22 := own_keep o_h Hw22
  have k_w22 := k_w21.below Hw22
  go_wp2_with fail
  refine (heldMoveS_c ys.length g 1 _ k_w22 hly (by decide) (by decide)).mono ?_
  rintro e w23 ⟨rfl, Hw23⟩
  go_wp2
  go_ret
  exact ⟨rfl, Bw22.trans (Hw23.mono Zw22)⟩

namespace fnExactComposeMoves
open Go.RowKit Go.PM Go.ChangeShapes Go.WideShapes Go.ChangeAt
open Go.ChangeMaps (open_string shut_string)
set_option maxRecDepth 100000 in
theorem lifted (os : Os) (started : os.Started) (H : Type) (enc : TypeId × Value → H) :
    ReturnsInHanded {} Try.checked os 6 .any (Rows.fnExactComposeMovesSpec.pre6 enc Try.prog Try.f6 Rows.fnExactComposeMovesRow.domain false) (Rows.fnExactComposeMovesSpec.post enc Try.prog Try.f6 false true false false) := by
  refine returnsInHanded_of_change (C := Try.checked) own started (by kernel_rfl) Try.func6
    (ChangeSpec.witness6 (enc := enc) (C := Try.checked) false ⟨#[], #[.slice none 0 0, .slice none 0 0], []⟩ 8 (by kernel_rfl) (by kernel_rfl) (by kernel_rfl) (by kernel_rfl)) ?_
  intro W base args ds gs before hval0 hW hcnd _
  have hval : ∀ (j : Nat) t v, Try.f6.params[j]? = some t → args[j]? = some v → Value.okWide Try.prog W .any base t v := hval0
  have hW' := hW
  obtain ⟨p, q, hA0, hV, rfl, hfz, hnd⟩ := hW
  have hA : DataW.TrodAll enc Try.prog W 0 (fun _ => true) true Try.f6.params.toList args.toList ds p := hA0
  rw [Try.params6] at hA hval
  obtain ⟨v0, vs0, d0, ds0, p0, q0, hargs, rfl, rfl, h0, r0⟩ := trodAll_cons hA
  obtain ⟨v1, vs1, d1, ds1, p1, q1, rfl, rfl, rfl, h1, r1⟩ := trodAll_cons r0
  obtain ⟨rfl, rfl, rfl⟩ := trodAll_nil r1
  obtain rfl : args = #[v0, v1] := by cases args; simp_all
  obtain ⟨rfl, rfl⟩ := trodVars_none hV
  have k0 := h0
  have lt0 : ∀ x ∈ p0, x.block < W.heap.size := by obtain ⟨m, hm⟩ := k0; exact DataW.trod_lt m _ _ _ hm
  have k1 := h1
  have lt1 : ∀ x ∈ p1, x.block < W.heap.size := by obtain ⟨m, hm⟩ := k1; exact DataW.trod_lt m _ _ _ hm
  obtain ⟨a0, len0, cap0, rfl⟩ := okWide_slice Try.underlying41 (hval 0 41 v0 rfl rfl)
  obtain ⟨xs0, hx0, hz0⟩ : ∃ xs : List Mv, RdM W (.slice a0 len0 cap0) xs ∧ ∀ m ∈ xs, m.1.size ≤ 9223372036854775807 ∧ m.2.size ≤ 9223372036854775807 := by obtain ⟨fuel, hf⟩ := h0; exact open_moves hf
  obtain ⟨a1, len1, cap1, rfl⟩ := okWide_slice Try.underlying41 (hval 1 41 v1 rfl rfl)
  obtain ⟨xs1, hx1, hz1⟩ : ∃ xs : List Mv, RdM W (.slice a1 len1 cap1) xs ∧ ∀ m ∈ xs, m.1.size ≤ 9223372036854775807 ∧ m.2.size ≤ 9223372036854775807 := by obtain ⟨fuel, hf⟩ := h1; exact open_moves hf
  clear hA0 hval0
  refine (exComposeMoves W xs0 _ hx0 hz0 xs1 _ hx1 hz1).mono fun e W' ⟨he, bel⟩ => ?_
  subst he
  exact ⟨_, rfl, _, _, _, [], _, [], hW', trodAll_mk1 (shut_bool Try.underlying4 _), (trodAll_cons_mk (Below.trod laidOut (by kernel_rfl) (of_decide_eq_true (by kernel_rfl)) k0 bel lt0) (trodAll_cons_mk (Below.trod laidOut (by kernel_rfl) (of_decide_eq_true (by kernel_rfl)) k1 bel lt1) trodAll_mk0)), rfl, bel.frame _, fun h => by cases h⟩

theorem over : Rows.fnExactComposeMovesRow.holds Try.pinned (OpenSpec.ofChange Rows.fnExactComposeMovesSpec) :=
  OpenClaim.holds_of_wide 6 Try.f6 rfl rfl rfl rfl rfl rfl rfl ⟨rfl, rfl, rfl, rfl, rfl⟩ rfl rfl rfl rfl rfl (by kernel_rfl) Try.func6 (by kernel_rfl)
    (of_decide_eq_true (by kernel_rfl)) (by unfold Func.isWrapper; first | (rw [if_pos (by decide +kernel)]; kernel_rfl) | (rw [if_neg (by decide +kernel)]; exact ⟨rfl, rfl⟩))
    (fun os started H enc _ => lifted os started H enc)

/-- The statement. -/
theorem proved : Rows.FnExactComposeMovesSaid := over
end fnExactComposeMoves
end Go.Proofs.Ytmifmfljiaoeaaa
