/- Proved: for every input of the form's own reach the law FnExactWithFree answers true and its arguments read afterwards as before; no further condition. -/
import Derived.Test.YtnhncbhhlbcieaaMarkS
import Derived.Test.YtnhncbhhlbcieaaMark
import Derived.Test.YtnhncbhhlbcieaaSlS6
import Derived.Test.YtnhncbhhlbcieaaHar3
import Derived.Test.YtnhncbhhlbcieaaHar
import Derived.Test.YtnhncbhhlbcieaaOpen
namespace Go.Proofs.Ytnhncbhhlbcieaa
open Go.RowKit Go.PM
set_option maxRecDepth 100000 in
set_option maxHeartbeats 1600000 in
theorem heldStepS_c (n : Nat) (v : Value) (k : Int) (w : World) (hx : RdS w v (smarks n k.toNat)) (hn : n ≤ 1048576) (h1 : 1 ≤ k) (hk : k ≤ 4194304) :
    Calls Try.prog 10 #[v, .int .i64 k] w fun e w' => e = .returned (.int .i64 (k + 3 * (n : Int))) ∧ Below w.heap.size w w' := by
  obtain ⟨A, cap, hv, hnn, hc, hcell⟩ := hx.open
  rw [smarks_length] at hv hnn hc
  subst hv
  go_enter Try.func10, Try.ntmps10
  go_wp2
  go_loopw [1, 5] (fun m i wr => ∃ (j : Nat), j ≤ n ∧ i = .int .i64 j ∧ m = .int .i64 (k + 3 * (j : Int)) ∧ Below w.heap.size w wr) (fun _ i _ => n - (intOf i).toNat)
  case atStart => exact ⟨0, by omega, rfl, by simp, Below.refl _ _⟩
  case round =>
    obtain ⟨j, hj, rfl, rfl, hb⟩ := hrel
    have hbs := hb.size
    by_cases hlt : j < n
    · obtain ⟨b, off, rfl, hbl, hc0, hc1, hc2⟩ := hcell j (by rw [smarks_length]; exact hlt)
      rw [smarks_at] at hc0 hc1 hc2
      have e0 : ((k.toNat + 3 * j : Nat) : Int) = k + 3 * (j : Int) := by omega
      have e1 : (k + 3 * (j : Int) + 1).toNat = k.toNat + 3 * j + 1 := by omega
      have e2 : (k + 3 * (j : Int) + 1 + 1).toNat = k.toNat + 3 * j + 2 := by omega
      simp only at hc0 hc1 hc2
      rw [e0] at hc0
      rw [← e1] at hc1
      rw [← e2] at hc2
      have hd0 : wr.cell? ⟨b, off + j * 3, none⟩ = some (.int .i64 (k + 3 * (j : Int))) := (hb.cell (p := ⟨b, _, none⟩) hbl).trans hc0
      have hx1 : ∀ x : Ext w.heap.size wr, x.val.cell? ⟨b, off + j * 3 + 1, none⟩ = some (.string (mT (k + 3 * (j : Int) + 1).toNat)) := fun x => ((x.property.cell (p := ⟨b, _, none⟩) hbl).trans (hb.cell (p := ⟨b, _, none⟩) hbl)).trans hc1
      clear e0 e1 e2 hcell
      have i0 : (0 : Int) ≤ (j : Int) := by omega
      have i1 : (j : Int) < n := by omega
      go_wp2
      refine wp_region_ext w.heap.size (by kernel_rfl) (by kernel_rfl) ?_
      repeat (go_big_quiet_step ((go_at_call 22; exact ext_call _ hb.size (markText_i _ _ (by omega) (by omega)))))
      refine wpQuiet_nil ?_
      intro w2 hw'
      obtain ⟨xw, hxw⟩ := hw'
      have hb2 := xw.property
      rw [← hxw] at hb2
      clear hxw xw
      have hbw2 := hb.trans hb2
      have hd2 : w2.cell? ⟨b, off + j * 3 + 2, none⟩ = some (.string (mT (k + 3 * (j : Int) + 1 + 1).toNat)) := (hbw2.cell (p := ⟨b, _, none⟩) hbl).trans hc2
      have hx2 : ∀ x : Ext w.heap.size w2, x.val.cell? ⟨b, off + j * 3 + 2, none⟩ = some (.string (mT (k + 3 * (j : Int) + 1 + 1).toNat)) := fun x => (x.property.cell (p := ⟨b, _, none⟩) hbl).trans hd2
      clear hx1 hd2 hb2 hc0 hc1 hc2 hd0
      have hbs2 := hbw2.size
      go_wp2
      refine wp_region_ext w.heap.size (by kernel_rfl) (by kernel_rfl) ?_
      repeat (go_big_quiet_step ((go_at_call 22; exact ext_call _ hbw2.size (markText_i _ _ (by omega) (by omega)))))
      refine wpQuiet_nil ?_
      intro w3 hw'
      obtain ⟨xw, hxw⟩ := hw'
      have hb3 := xw.property
      rw [← hxw] at hb3
      clear hxw xw
      clear hx2
      go_wp2
      go_roundw
      case rel => exact ⟨j + 1, by omega, by go_num, by go_num, hbw2.trans hb3⟩
      case measure => simp [intOf]; omega
    · have HJ : Hid ((j : Int) = n) := by show _ = _; omega
      go_wp2
      go_ret
      exact ⟨by rw [← HJ.out]; rfl, hb⟩
end Go.Proofs.Ytnhncbhhlbcieaa
namespace Go.Proofs.Ytnhncbhhlbcieaa
open Go.RowKit Go.PM Go.PD
set_option maxRecDepth 100000 in
set_option maxHeartbeats 6400000 in
theorem exWithFree (w : World) (xs0 : List St) (v0 : Value) (hx0 : RdS w v0 xs0) (hz0 : ∀ m ∈ xs0, m.2.1.size ≤ 9223372036854775807 ∧ m.2.2.size ≤ 9223372036854775807) (s1 : ByteArray) (_hs1 : s1.size ≤ maxLen) :
    Calls Try.prog 3 #[v0, .string s1] w fun e w' => e = .returned (.bool true) ∧ Below w.heap.size w w' := by
  by_cases hb1 : 1048576 < s1.size
  · go_enter Try.func3, Try.ntmps3
    go_wp2
    go_ret
    exact ⟨rfl, Below.refl _ _⟩
  obtain ⟨ys, hys⟩ : ∃ ys, ys = frS xs0 s1.data.toList := ⟨_, rfl⟩
  have hly : ys.length ≤ 1048576 := by rw [hys]; exact (frS_len xs0 s1.data.toList)
  have HYS := Lib.hid hys
  clear hys
  go_enter Try.func3, Try.ntmps3
  go_wp2_with fail
  refine (szStepS_c xs0 v0 1048576 _ (by decide) (by decide) hx0 hz0).mono ?_
  rintro e w1 ⟨⟨r0, rfl, hr0, hq0⟩, Hw1⟩
  have HR0 := Lib.hid hr0
  clear hr0
  have Bw1 := Hw1
  have Zw1 := Bw1.size
  by_cases hneg0 : r0 < 0
  · go_wp2
    go_ret
    exact ⟨rfl, Bw1⟩
  have hl0 : xs0.length ≤ 1048576 := by have := HR0.out (by omega); have := ssize_len xs0; omega
  go_wp2_with fail
  refine (toStepS_c xs0 v0 _ (hx0.below Bw1) hl0).mono ?_
  rintro e w2 ⟨c0, rfl, o_c0, Hw2⟩
  have Bw2 : Below w.heap.size w w2 := Bw1.trans (Hw2.mono Zw1)
  have Zw2 := Bw2.size
  go_wp2_with fail
  refine (spWithFree_c xs0 c0 s1 (by omega) _ (Rd.of_own o_c0)).mono ?_
  rw [show frS xs0 s1.data.toList = ys from HYS.out.symm]
  rintro e w3 ⟨s, rfl, o_s, Hw3⟩
  have ne_c0_s := own_ne o_c0 o_s (Nat.le_refl _)
  have Bw3 : Below w.heap.size w w3 := Bw2.trans (Hw3.mono Zw2)
  have Zw3 := Bw3.size
  have c0_w3 := own_keep o_c0 Hw3
  go_wp2_with fail
  refine (toStepS_c xs0 v0 _ (hx0.below Bw3) hl0).mono ?_
  rintro e w4 ⟨x0, rfl, o_x0, Hw4⟩
  have ne_s_x0 := own_ne o_s o_x0 (Nat.le_refl _)
  have Bw4 : Below w.heap.size w w4 := Bw3.trans (Hw4.mono Zw3)
  have Zw4 := Bw4.size
  have s_w4 := own_keep o_s Hw4
  go_wp2_with fail
  refine (imWithFree_c xs0 x0 s1 (by omega) _ (Rd.of_own o_x0)).mono ?_
  rw [show frS xs0 s1.data.toList = ys from HYS.out.symm]
  rintro e w5 ⟨g, rfl, o_g, Hw5⟩
  have ne_s_g := own_ne s_w4 o_g (Nat.le_refl _)
  have ne_x0_g := own_ne o_x0 o_g (Nat.le_refl _)
  have Bw5 : Below w.heap.size w w5 := Bw4.trans (Hw5.mono Zw4)
  have Zw5 := Bw5.size
  have s_w5 := own_keep s_w4 Hw5
  have x0_w5 := own_keep o_x0 Hw5
  go_wp2_with fail
  refine (eqStepS_c ys ys g s _ (Rd.of_own o_g) (Rd.of_own s_w5)).mono ?_
  rintro e w6 ⟨he, Hw6⟩
  rw [show decide (ys = ys) = true by simp] at he
  subst he
  have Bw6 : Below w.heap.size w w6 := Bw5.trans (Hw6.mono Zw5)
  have Zw6 := Bw6.size
  have s_w6 := own_keep s_w5 Hw6
  have x0_w6 := own_keep x0_w5 Hw6
  have g_w6 := own_keep o_g Hw6
  go_wp2_with fail
  refine (toStepS_c xs0 v0 _ (hx0.below Bw6) hl0).mono ?_
  rintro e w7 ⟨t0, rfl, o_t0, Hw7⟩
  have ne_s_t0 := own_ne s_w6 o_t0 (Nat.le_refl _)
  have ne_x0_t0 := own_ne x0_w6 o_t0 (Nat.le_refl _)
  have ne_g_t0 := own_ne g_w6 o_t0 (Nat.le_refl _)
  have Bw7 : Below w.heap.size w w7 := Bw6.trans (Hw7.mono Zw6)
  have Zw7 := Bw7.size
  have s_w7 := own_keep s_w6 Hw7
  have x0_w7 := own_keep x0_w6 Hw7
  have g_w7 := own_keep g_w6 Hw7
  go_wp2_with fail
  refine (eqStepS_c xs0 xs0 x0 t0 _ (Rd.of_own x0_w7) (Rd.of_own o_t0)).mono ?_
  rintro e w8 ⟨he, Hw8⟩
  rw [show decide (xs0 = xs0) = true by simp] at he
  subst he
  have Bw8 : Below w.heap.size w w8 := Bw7.trans (Hw8.mono Zw7)
  have Zw8 := Bw8.size
  have s_w8 := own_keep s_w7 Hw8
  have x0_w8 := own_keep x0_w7 Hw8
  have g_w8 := own_keep g_w7 Hw8
  have t0_w8 := own_keep o_t0 Hw8
  go_wp2_with fail
  refine (markStepS_c xs0 x0 _ 1 _ x0_w8 hl0 (by omega) (by omega)).mono ?_
  rintro e w9 ⟨rfl, _, Hw9⟩
  have Bw9 := Bw8.trans (below_grown Hw9 (B := w.heap.size) Zw8 (fun g hg => by have := own_block_ge o_x0 g hg; omega))
  have Zw9 := Bw9.size
  have Yw9 := Hw9.size
  have s_w9 := own_grown s_w8 Hw9 ne_s_x0
  have g_w9 := own_grown g_w8 Hw9 (ne_turn ne_x0_g)
  go_wp2_with fail
  refine (eqStepS_c ys ys g s _ (Rd.of_own g_w9) (Rd.of_own s_w9)).mono ?_
  rintro e w10 ⟨he, Hw10⟩
  rw [show decide (ys = ys) = true by simp] at he
  subst he
  have Bw10 : Below w.heap.size w w10 := Bw9.trans (Hw10.mono Zw9)
  have Zw10 := Bw10.size
  have s_w10 := own_keep s_w9 Hw10
  have g_w10 := own_keep g_w9 Hw10
  go_wp2_with fail
  refine (markStepS_c ys g _ 1 _ g_w10 hly (by omega) (by omega)).mono ?_
  rintro e w11 ⟨rfl, om_g, Hw11⟩
  have Bw11 := Bw10.trans (below_grown Hw11 (B := w.heap.size) Zw10 (fun g hg => by have := own_block_ge o_g g hg; omega))
  have Zw11 := Bw11.size
  have Yw11 := Hw11.size
  have s_w11 := own_grown s_w10 Hw11 ne_s_g
  have k_w11 : RdS w11 g (smarks ys.length 1) := by
    have := Rd.of_own om_g
    unfold RdS; rw [smarks_length]; exact this
  go_wp2_with fail
  refine (heldStepS_c ys.length g 1 _ k_w11 hly (by decide) (by decide)).mono ?_
  rintro e w12 ⟨rfl, Hw12⟩
  have Bw12 : Below w.heap.size w w12 := Bw11.trans (Hw12.mono Zw11)
  have Zw12 := Bw12.size
  have s_w12 := own_keep s_w11 Hw12
  have k_w12 := k_w11.below Hw12
  go_wp2_with fail
  refine (toStepS_c xs0 v0 _ (hx0.below Bw12) hl0).mono ?_
  rintro e w13 ⟨d0, rfl, o_d0, Hw13⟩
  have ne_s_d0 := own_ne s_w12 o_d0 (Nat.le_refl _)
  have Bw13 : Below w.heap.size w w13 := Bw12.trans (Hw13.mono Zw12)
  have Zw13 := Bw13.size
  have s_w13 := own_keep s_w12 Hw13
  have k_w13 := k_w12.below Hw13
  go_wp2_with fail
  refine (imWithFree_c xs0 d0 s1 (by omega) _ (Rd.of_own o_d0)).mono ?_
  rw [show frS xs0 s1.data.toList = ys from HYS.out.symm]
  rintro e w14 ⟨h, rfl, o_h, Hw14⟩
  have ne_s_h := own_ne s_w13 o_h (Nat.le_refl _)
  have ne_d0_h := own_ne o_d0 o_h (Nat.le_refl _)
  have Bw14 : Below w.heap.size w w14 := Bw13.trans (Hw14.mono Zw13)
  have Zw14 := Bw14.size
  have s_w14 := own_keep s_w13 Hw14
  have d0_w14 := own_keep o_d0 Hw14
  have k_w14 := k_w13.below Hw14
  go_wp2_with fail
  refine (eqStepS_c ys ys h s _ (Rd.of_own o_h) (Rd.of_own s_w14)).mono ?_
  rintro e w15 ⟨he, Hw15⟩
  rw [show decide (ys = ys) = true by simp] at he
  subst he
  have Bw15 : Below w.heap.size w w15 := Bw14.trans (Hw15.mono Zw14)
  have Zw15 := Bw15.size
  have s_w15 := own_keep s_w14 Hw15
  have h_w15 := own_keep o_h Hw15
  have k_w15 := k_w14.below Hw15
  go_wp2_with fail
  refine (heldStepS_c ys.length g 1 _ k_w15 hly (by decide) (by decide)).mono ?_
  rintro e w16 ⟨rfl, Hw16⟩
  go_wp2
  go_ret
  exact ⟨rfl, Bw15.trans (Hw16.mono Zw15)⟩

namespace fnExactWithFree
open Go.RowKit Go.PM Go.ChangeShapes Go.WideShapes Go.ChangeAt
open Go.ChangeMaps (open_string shut_string)
set_option maxRecDepth 100000 in
theorem lifted (os : Os) (started : os.Started) (H : Type) (enc : TypeId × Value → H) :
    ReturnsInHanded {} Try.checked os 3 .any (Rows.fnExactWithFreeSpec.pre6 enc Try.prog Try.f3 Rows.fnExactWithFreeRow.domain false) (Rows.fnExactWithFreeSpec.post enc Try.prog Try.f3 false true false false) := by
  refine returnsInHanded_of_change (C := Try.checked) own started (by kernel_rfl) Try.func3
    (ChangeSpec.witness6 (enc := enc) (C := Try.checked) false ⟨#[], #[.slice none 0 0, .string ⟨#[]⟩], []⟩ 8 (by kernel_rfl) (by kernel_rfl) (by kernel_rfl) (by kernel_rfl)) ?_
  intro W base args ds gs before hval0 hW hcnd _
  have hval : ∀ (j : Nat) t v, Try.f3.params[j]? = some t → args[j]? = some v → Value.okWide Try.prog W .any base t v := hval0
  have hW' := hW
  obtain ⟨p, q, hA0, hV, rfl, hfz, hnd⟩ := hW
  have hA : DataW.TrodAll enc Try.prog W 0 (fun _ => true) true Try.f3.params.toList args.toList ds p := hA0
  rw [Try.params3] at hA hval
  obtain ⟨v0, vs0, d0, ds0, p0, q0, hargs, rfl, rfl, h0, r0⟩ := trodAll_cons hA
  obtain ⟨v1, vs1, d1, ds1, p1, q1, rfl, rfl, rfl, h1, r1⟩ := trodAll_cons r0
  obtain ⟨rfl, rfl, rfl⟩ := trodAll_nil r1
  obtain rfl : args = #[v0, v1] := by cases args; simp_all
  obtain ⟨rfl, rfl⟩ := trodVars_none hV
  have k0 := h0
  have lt0 : ∀ x ∈ p0, x.block < W.heap.size := by obtain ⟨m, hm⟩ := k0; exact DataW.trod_lt m _ _ _ hm
  have k1 := h1
  have lt1 : ∀ x ∈ p1, x.block < W.heap.size := by obtain ⟨m, hm⟩ := k1; exact DataW.trod_lt m _ _ _ hm
  obtain ⟨a0, len0, cap0, rfl⟩ := okWide_slice Try.underlying22 (hval 0 22 v0 rfl rfl)
  obtain ⟨xs0, hx0, hz0⟩ : ∃ xs : List St, RdS W (.slice a0 len0 cap0) xs ∧ ∀ m ∈ xs, m.2.1.size ≤ 9223372036854775807 ∧ m.2.2.size ≤ 9223372036854775807 := by obtain ⟨fuel, hf⟩ := h0; exact open_steps hf
  obtain ⟨s1, rfl, _, _, hs1⟩ := open_string Try.underlying9 (hval 1 9 v1 rfl rfl) h1
  clear hA0 hval0
  refine (exWithFree W xs0 _ hx0 hz0 s1 hs1).mono fun e W' ⟨he, bel⟩ => ?_
  subst he
  exact ⟨_, rfl, _, _, _, [], _, [], hW', trodAll_mk1 (shut_bool Try.underlying4 _), (trodAll_cons_mk (Below.trod laidOut (by kernel_rfl) (of_decide_eq_true (by kernel_rfl)) k0 bel lt0) (trodAll_cons_mk (Below.trod laidOut (by kernel_rfl) (of_decide_eq_true (by kernel_rfl)) k1 bel lt1) trodAll_mk0)), rfl, bel.frame _, fun h => by cases h⟩

theorem over : Rows.fnExactWithFreeRow.holds Try.pinned (OpenSpec.ofChange Rows.fnExactWithFreeSpec) :=
  OpenClaim.holds_of_wide 3 Try.f3 rfl rfl rfl rfl rfl rfl rfl ⟨rfl, rfl, rfl, rfl, rfl⟩ rfl rfl rfl rfl rfl (by kernel_rfl) Try.func3 (by kernel_rfl)
    (of_decide_eq_true (by kernel_rfl)) (by unfold Func.isWrapper; first | (rw [if_pos (by decide +kernel)]; kernel_rfl) | (rw [if_neg (by decide +kernel)]; exact ⟨rfl, rfl⟩))
    (fun os started H enc _ => lifted os started H enc)

/-- The statement. -/
theorem proved : Rows.FnExactWithFreeSaid := over
end fnExactWithFree
end Go.Proofs.Ytnhncbhhlbcieaa
