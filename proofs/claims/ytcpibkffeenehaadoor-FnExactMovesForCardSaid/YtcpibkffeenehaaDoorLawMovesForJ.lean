/- Proved: for every input of the form's own reach the law FnExactMovesFor answers true and its arguments read afterwards as before; no further condition. -/
import Derived.Test.YtcpibkffeenehaaDoorCkB
import Derived.Test.YtcpibkffeenehaaDoorCkA
import Derived.Test.YtcpibkffeenehaaDoorCard10
import Derived.Test.YtcpibkffeenehaaDoorMark
import Derived.Test.YtcpibkffeenehaaDoorHar
import Derived.Test.YtcpibkffeenehaaDoorOpen
namespace Go.Proofs.YtcpibkffeenehaaDoor
open Go.RowKit Go.PM Go.PD Go.PF
set_option maxRecDepth 100000 in
set_option maxHeartbeats 6400000 in
theorem exMovesFor (w : World) (s0 : ByteArray) (_hs0 : s0.size ≤ maxLen) (s1 : ByteArray) (_hs1 : s1.size ≤ maxLen) (hG : U8w w) :
    Calls Tryd.prog 7 #[.string s0, .string s1] w fun e w' => e = .returned (.bool true) ∧ Below w.heap.size w w' := by
  by_cases hb0 : 1048576 < s0.size
  · go_enter Tryd.func7, Tryd.ntmps7
    go_wp2
    go_ret
    exact ⟨rfl, Below.refl _ _⟩
  by_cases hb1 : 1048576 < s1.size
  · go_enter Tryd.func7, Tryd.ntmps7
    go_wp2
    go_ret
    exact ⟨rfl, Below.refl _ _⟩
  obtain ⟨ys, hys⟩ : ∃ ys, ys = (clL s0.data.toList s1.data.toList) := ⟨_, rfl⟩
  have hly : ys.length ≤ 1048576 := by rw [hys]; exact (by have := clL_short s0.data.toList s1.data.toList; omega)
  have HYS := Lib.hid hys
  clear hys
  go_enter Tryd.func7, Tryd.ntmps7
  go_wp2_with fail
  refine (spMovesFor_c s0 s1 (by omega) (by omega) _).mono ?_
  rw [show (clL s0.data.toList s1.data.toList) = ys from HYS.out.symm]
  rintro e w1 ⟨s, rfl, o_s, Hw1⟩
  have Bw1 := Hw1
  have Zw1 := Bw1.size
  go_wp2_with fail
  refine (imMovesFor_c s0 s1 (by omega) (by omega) _ (hG.below Bw1)).mono ?_
  rw [show (clL s0.data.toList s1.data.toList) = ys from HYS.out.symm]
  rintro e w2 ⟨g, rfl, o_g, Hw2⟩
  have ne_s_g := own_ne o_s o_g (Nat.le_refl _)
  have Bw2 : Below w.heap.size w w2 := Bw1.trans (Hw2.mono Zw1)
  have Zw2 := Bw2.size
  have s_w2 := own_keep o_s Hw2
  go_wp2_with fail
  refine (eqMoveS_c ys ys g s _ (Rd.of_own o_g) (Rd.of_own s_w2)).mono ?_
  rintro e w3 ⟨he, Hw3⟩
  rw [show decide (ys = ys) = true by simp] at he
  subst he
  have Bw3 : Below w.heap.size w w3 := Bw2.trans (Hw3.mono Zw2)
  have Zw3 := Bw3.size
  have s_w3 := own_keep s_w2 Hw3
  have g_w3 := own_keep o_g Hw3
  go_wp2_with fail
  refine (markMoveS_c ys g _ 1 _ g_w3 hly (by omega) (by omega)).mono ?_
  rintro e w4 ⟨rfl, om_g, Hw4⟩
  have Bw4 := Bw3.trans (below_grown Hw4 (B := w.heap.size) Zw3 (fun g hg => by have := own_block_ge o_g g hg; omega))
  have Zw4 := Bw4.size
  have Yw4 := Hw4.size
  have s_w4 := own_grown s_w3 Hw4 ne_s_g
  have k_w4 : RdM w4 g (marks ys.length 1) := by
    have := Rd.of_own om_g
    unfold RdM; rw [marks_length]; exact this
  go_wp2_with fail
  refine (heldMoveS_c ys.length g 1 _ k_w4 hly (by decide) (by decide)).mono ?_
  rintro e w5 ⟨rfl, Hw5⟩
  have Bw5 : Below w.heap.size w w5 := Bw4.trans (Hw5.mono Zw4)
  have Zw5 := Bw5.size
  have s_w5 := own_keep s_w4 Hw5
  have k_w5 := k_w4.below Hw5
  go_wp2_with fail
  refine (imMovesFor_c s0 s1 (by omega) (by omega) _ (hG.below Bw5)).mono ?_
  rw [show (clL s0.data.toList s1.data.toList) = ys from HYS.out.symm]
  rintro e w6 ⟨h, rfl, o_h, Hw6⟩
  have ne_s_h := own_ne s_w5 o_h (Nat.le_refl _)
  have Bw6 : Below w.heap.size w w6 := Bw5.trans (Hw6.mono Zw5)
  have Zw6 := Bw6.size
  have s_w6 := own_keep s_w5 Hw6
  have k_w6 := k_w5.below Hw6
  go_wp2_with fail
  refine (eqMoveS_c ys ys h s _ (Rd.of_own o_h) (Rd.of_own s_w6)).mono ?_
  rintro e w7 ⟨he, Hw7⟩
  rw [show decide (ys = ys) = true by simp] at he
  subst he
  have Bw7 : Below w.heap.size w w7 := Bw6.trans (Hw7.mono Zw6)
  have Zw7 := Bw7.size
  have s_w7 := own_keep s_w6 Hw7
  have h_w7 := own_keep o_h Hw7
  have k_w7 := k_w6.below Hw7
  go_wp2_with fail
  refine (heldMoveS_c ys.length g 1 _ k_w7 hly (by decide) (by decide)).mono ?_
  rintro e w8 ⟨rfl, Hw8⟩
  go_wp2
  go_ret
  exact ⟨rfl, Bw7.trans (Hw8.mono Zw7)⟩

namespace fnExactMovesFor
open Go.RowKit Go.PM Go.ChangeShapes Go.WideShapes Go.ChangeAt
open Go.ChangeMaps (open_string shut_string)
set_option maxRecDepth 100000 in
theorem lifted (os : Os) (started : os.Started) (H : Type) (enc : TypeId × Value → H) :
    ReturnsInHanded {} Tryd.checked os 7 .any (fun w args => (Rows.fnExactMovesForSpec.pre enc Tryd.prog Tryd.f7 [] false w args ∧ laidMetH Tryd.prog laidL w) ∧ sizedMet enc Tryd.prog Tryd.f7 (OpenSpec.ofChange Rows.fnExactMovesForSpec) false w args)
      (Rows.fnExactMovesForSpec.post enc Tryd.prog Tryd.f7 false true false false) := by
  refine returnsInHanded_of_change_and (C := Tryd.checked) (X := fun w _ => laidMetH Tryd.prog laidL w) (fun _ _ _ hh h => h.of_heap hh) own started (by kernel_rfl) Tryd.func7
    (ChangeSpec.witness_at (enc := enc) (C := Tryd.checked) (os := os) (X := fun w _ => laidMetH Tryd.prog laidL w) false (laidWorld os) #[.string ⟨#[]⟩, .string ⟨#[]⟩] 8 rfl (by kernel_rfl) (by kernel_rfl) (by kernel_rfl) (by kernel_rfl) (by kernel_rfl) (laidWorld_met os _)) ?_
  intro W base args ds gs before hval0 hW _ _ hL _
  have hval : ∀ (j : Nat) t v, Tryd.f7.params[j]? = some t → args[j]? = some v → Value.okWide Tryd.prog W .any base t v := hval0
  have hW' := hW
  obtain ⟨p, q, hA0, hV, rfl, hfz, hnd⟩ := hW
  have hA : DataW.TrodAll enc Tryd.prog W 0 (fun _ => true) true Tryd.f7.params.toList args.toList ds p := hA0
  rw [Tryd.params7] at hA hval
  obtain ⟨v0, vs0, d0, ds0, p0, q0, hargs, rfl, rfl, h0, r0⟩ := trodAll_cons hA
  obtain ⟨v1, vs1, d1, ds1, p1, q1, rfl, rfl, rfl, h1, r1⟩ := trodAll_cons r0
  obtain ⟨rfl, rfl, rfl⟩ := trodAll_nil r1
  obtain rfl : args = #[v0, v1] := by cases args; simp_all
  obtain ⟨rfl, rfl⟩ := trodVars_none hV
  have hG := u8_of_laid hL
  have k0 := h0
  have lt0 : ∀ x ∈ p0, x.block < W.heap.size := by obtain ⟨m, hm⟩ := k0; exact DataW.trod_lt m _ _ _ hm
  have k1 := h1
  have lt1 : ∀ x ∈ p1, x.block < W.heap.size := by obtain ⟨m, hm⟩ := k1; exact DataW.trod_lt m _ _ _ hm
  obtain ⟨s0, rfl, _, _, hs0⟩ := open_string Tryd.underlying9 (hval 0 9 v0 rfl rfl) h0
  obtain ⟨s1, rfl, _, _, hs1⟩ := open_string Tryd.underlying9 (hval 1 9 v1 rfl rfl) h1
  clear hA0 hval0
  refine (exMovesFor W s0 hs0 s1 hs1 hG).mono fun e W' ⟨he, bel⟩ => ?_
  subst he
  exact ⟨_, rfl, _, _, _, [], _, [], hW', trodAll_mk1 (shut_bool Tryd.underlying4 _), (trodAll_cons_mk (Below.trod laidOut (by kernel_rfl) (of_decide_eq_true (by kernel_rfl)) k0 bel lt0) (trodAll_cons_mk (Below.trod laidOut (by kernel_rfl) (of_decide_eq_true (by kernel_rfl)) k1 bel lt1) trodAll_mk0)), rfl, bel.frame _, fun h => by cases h⟩

theorem over : Rows.fnExactMovesForRow.holds Tryd.pinned (OpenSpec.ofChange Rows.fnExactMovesForSpec) :=
  OpenClaim.holds_of_wide 7 Tryd.f7 rfl rfl rfl rfl rfl rfl rfl ⟨rfl, rfl, rfl, rfl, rfl⟩ rfl rfl rfl rfl rfl (by kernel_rfl) Tryd.func7 (by kernel_rfl)
    (of_decide_eq_true (by kernel_rfl)) (by unfold Func.isWrapper; first | (rw [if_pos (by decide +kernel)]; kernel_rfl) | (rw [if_neg (by decide +kernel)]; exact ⟨rfl, rfl⟩))
    (fun os started H enc _ => lifted os started H enc)

/-- The statement. -/
theorem proved : Rows.FnExactMovesForCardSaid :=
  Claim7.holds_tied_plain_at .later [] [.data, .pinned] true Rows.fnExactMovesForCard.stood.harness false
    over (fun _ h => by cases h) (by kernel_rfl) (fun _ h => by cases h) fnExactMovesFor_row_tie rfl ⟨rfl, rfl⟩ (by kernel_rfl) rfl
    (fun f fn hf hfn => by
      obtain rfl : f = 7 := Option.some.inj ((show Tryd.prog.funcNamed "loop.example/parallelmoves/laws.FnExactMovesFor" = some 7 by kernel_rfl).symm.trans hf) |>.symm
      obtain rfl : fn = Tryd.f7 := (Option.some.inj (Tryd.func7.symm.trans hfn)).symm
      exact ⟨by kernel_rfl, fun j t ht => by
        rw [Tryd.params7] at ht
        rcases j with _ | _ | j
        · obtain rfl : t = 9 := by simpa using ht.symm
          exact (show Tryd.prog.wantsStandIn 9 = false by kernel_rfl)
        · obtain rfl : t = 9 := by simpa using ht.symm
          exact (show Tryd.prog.wantsStandIn 9 = false by kernel_rfl)
        · simp at ht⟩)
    (by kernel_rfl)
end fnExactMovesFor
end Go.Proofs.YtcpibkffeenehaaDoor
