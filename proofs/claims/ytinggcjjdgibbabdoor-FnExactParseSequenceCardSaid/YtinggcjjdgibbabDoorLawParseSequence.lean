/- Proved: for every input of the form's own reach the law FnExactParseSequence answers true; no further condition. -/
import Derived.Test.YtinggcjjdgibbabDoorPrsSS
import Derived.Test.YtinggcjjdgibbabDoorPrsSI
import Derived.Test.YtinggcjjdgibbabDoorCard
import Derived.Test.YtinggcjjdgibbabDoorHeldS
import Derived.Test.YtinggcjjdgibbabDoorHar3
import Derived.Test.YtinggcjjdgibbabDoorHar
import Derived.Test.YtinggcjjdgibbabDoorOpen
namespace Go.Proofs.YtinggcjjdgibbabDoor
open Go.RowKit Go.PM
set_option maxRecDepth 100000 in
set_option maxHeartbeats 3200000 in
theorem exParseSequence (w : World) (t : ByteArray) (_hmax : t.size ≤ maxLen) (hG : Sg w) :
    Calls Tryd.prog 5 #[.string t] w fun e w' => e = .returned (.bool true) ∧ Below w.heap.size w w' := by
  by_cases hbig : 1048576 < t.size
  · go_enter Tryd.func5, Tryd.ntmps5
    go_wp2
    go_ret
    exact ⟨rfl, Below.refl _ _⟩
  have ht : t.size ≤ 1048576 := by omega
  have HSP := Lib.hid (fun W => spParseSequence_c t W ht)
  have HIM := Lib.hid (fun W (hW : Below w.heap.size w W) => imParseSequence_c t W ht (hG.below hW))
  clear hG
  have hyl := sqS_len t
  generalize sqS t = ys at *
  generalize sqOk t = ok at *
  have hly : ys.length ≤ 1048576 := by omega
  go_enter Tryd.func5, Tryd.ntmps5
  go_wp2_with fail
  refine (HSP.out _).mono ?_
  rintro e w3 ⟨vs, rfl, o3, b3⟩
  have z3 := b3.size
  go_wp2_with fail
  refine (HIM.out _ b3).mono ?_
  rintro e w5 ⟨g0, rfl, o5, h5⟩
  have b5 := b3.trans (h5.mono z3)
  have z5 := b5.size
  have z35 := h5.size
  have s5 := own_keep o3 h5
  have nsg := own_ne o3 o5 (Nat.le_refl _)
  go_wp2_with fail
  refine (eqStepS_c ys ys g0 vs _ (Rd.of_own o5) (Rd.of_own s5)).mono ?_
  rintro e w10 ⟨he, h10⟩
  rw [show decide (ys = ys) = true by simp] at he
  subst he
  have b10 := b5.trans (h10.mono z5)
  have z10 := b10.size
  have z510 := h10.size
  have g10 := own_keep o5 h10
  have s10 := own_keep s5 h10
  go_wp2_with fail
  refine (markStepS_c ys g0 _ 1 _ g10 hly (by decide) (by decide)).mono ?_
  rintro e w11 ⟨rfl, g11, h11⟩
  have b11 := b10.trans (below_grown h11 (B := w.heap.size) z10 (fun g hg => by have := own_block_ge o5 g hg; omega))
  have z11 := b11.size
  have s11 := own_grown s10 h11 nsg
  have k11 : RdS w11 g0 (smarks ys.length 1) := by
    have := Rd.of_own g11
    unfold RdS; rw [smarks_length]; exact this
  go_wp2_with fail
  refine (heldStepS_c ys.length g0 1 _ k11 hly (by decide) (by decide)).mono ?_
  rintro e w12 ⟨rfl, h12⟩
  have b12 := b11.trans (h12.mono z11)
  have z12 := b12.size
  have k12 := k11.below h12
  have s12 := own_keep s11 h12
  go_wp2_with fail
  refine (HIM.out _ b12).mono ?_
  rintro e w14 ⟨h0, rfl, o14, h14⟩
  have b14 := b12.trans (h14.mono z12)
  have z14 := b14.size
  have k14 := k12.below h14
  have s14 := own_keep s12 h14
  go_wp2_with fail
  refine (eqStepS_c ys ys h0 vs _ (Rd.of_own o14) (Rd.of_own s14)).mono ?_
  rintro e w15 ⟨he, h15⟩
  rw [show decide (ys = ys) = true by simp] at he
  subst he
  have b15 := b14.trans (h15.mono z14)
  have z15 := b15.size
  have k15 := k14.below h15
  go_wp2_with fail
  refine (heldStepS_c ys.length g0 1 _ k15 hly (by decide) (by decide)).mono ?_
  rintro e w16 ⟨rfl, h16⟩
  go_wp2
  go_ret
  exact ⟨rfl, b15.trans (h16.mono z15)⟩

namespace fnExactParseSequence
open Go.RowKit Go.PM Go.ChangeShapes Go.WideShapes Go.ChangeAt
open Go.ChangeMaps (open_string shut_string)
set_option maxRecDepth 100000 in
theorem lifted (os : Os) (started : os.Started) (H : Type) (enc : TypeId × Value → H) :
    ReturnsInHanded {} Tryd.checked os 5 .any (fun w args => (Rows.fnExactParseSequenceSpec.pre enc Tryd.prog Tryd.f5 [] false w args ∧ laidMetH Tryd.prog laidL w) ∧ sizedMet enc Tryd.prog Tryd.f5 (OpenSpec.ofChange Rows.fnExactParseSequenceSpec) false w args)
      (Rows.fnExactParseSequenceSpec.post enc Tryd.prog Tryd.f5 false true false false) := by
  refine returnsInHanded_of_change_and (C := Tryd.checked) (X := fun w _ => laidMetH Tryd.prog laidL w) (fun _ _ _ hh h => h.of_heap hh) own started (by kernel_rfl) Tryd.func5
    (ChangeSpec.witness_at (enc := enc) (C := Tryd.checked) (os := os) (X := fun w _ => laidMetH Tryd.prog laidL w) false (laidWorld os) #[.string ⟨#[]⟩] 8 rfl (by kernel_rfl) (by kernel_rfl) (by kernel_rfl) (by kernel_rfl) (by kernel_rfl) (laidWorld_met os _)) ?_
  intro W base args ds gs before hval0 hW _ _ hL _
  have hval : ∀ (j : Nat) t v, Tryd.f5.params[j]? = some t → args[j]? = some v → Value.okWide Tryd.prog W .any base t v := hval0
  have hW' := hW
  obtain ⟨p, q, hA0, hV0, rfl, hfz, hnd⟩ := hW
  have hA : DataW.TrodAll enc Tryd.prog W 0 (fun _ => true) true Tryd.f5.params.toList args.toList ds p := hA0
  have hV : DataW.TrodVars enc Tryd.prog W (fun _ => true) ["loop.example/parallelmoves/impl.stepSigns"] gs q := hV0
  rw [Tryd.params5] at hA hval
  obtain ⟨v0, vs0, d0, ds0, p0, q0, hargs, rfl, rfl, h0, r0⟩ := trodAll_cons hA
  obtain ⟨rfl, rfl, rfl⟩ := trodAll_nil r0
  obtain rfl : args = #[v0] := by cases args; simp_all
  obtain ⟨g1, q1, rfl, hG, hvars⟩ := signs_open hL hV
  have k0 := h0
  have lt0 : ∀ x ∈ p0, x.block < W.heap.size := by obtain ⟨m, hm⟩ := k0; exact DataW.trod_lt m _ _ _ hm
  obtain ⟨s0, rfl, _, _, hs0⟩ := open_string Tryd.underlying9 (hval 0 9 v0 rfl rfl) h0
  clear hA0 hval0 hV0
  refine (exParseSequence W s0 hs0 hG).mono fun e W' ⟨he, bel⟩ => ?_
  subst he
  exact ⟨_, rfl, _, _, _, [], _, _, hW', trodAll_mk1 (shut_bool Tryd.underlying4 _), (trodAll_cons_mk (Below.trod laidOut (by kernel_rfl) (of_decide_eq_true (by kernel_rfl)) k0 bel lt0) trodAll_mk0), hvars W' bel _, bel.frame _, fun h => by cases h⟩

theorem over : Rows.fnExactParseSequenceRow.holds Tryd.pinned (OpenSpec.ofChange Rows.fnExactParseSequenceSpec) :=
  OpenClaim.holds_of_wide 5 Tryd.f5 rfl rfl rfl rfl rfl rfl rfl ⟨rfl, rfl, rfl, rfl, rfl⟩ rfl rfl rfl rfl rfl (by kernel_rfl) Tryd.func5 (by kernel_rfl)
    (of_decide_eq_true (by kernel_rfl)) (by unfold Func.isWrapper; first | (rw [if_pos (by decide +kernel)]; kernel_rfl) | (rw [if_neg (by decide +kernel)]; exact ⟨rfl, rfl⟩))
    (fun os started H enc _ => lifted os started H enc)

/-- The statement. -/
theorem proved : Rows.FnExactParseSequenceCardSaid :=
  Claim7.holds_tied_plain_at .later [] [.data] true Rows.fnExactParseSequenceCard.stood.harness false
    over (fun _ h => by cases h) (by kernel_rfl) (fun _ h => by cases h) fnExactParseSequence_row_tie rfl ⟨rfl, rfl⟩ (by kernel_rfl) rfl
    (fun f fn hf hfn => by
      obtain rfl : f = 5 := Option.some.inj ((show Tryd.prog.funcNamed "loop.example/parallelmoves/laws.FnExactParseSequence" = some 5 by kernel_rfl).symm.trans hf) |>.symm
      obtain rfl : fn = Tryd.f5 := (Option.some.inj (Tryd.func5.symm.trans hfn)).symm
      exact ⟨by kernel_rfl, fun j t ht => by
        rw [Tryd.params5] at ht
        have h3 : t = 9 := by
          rcases j with _ | j
          · simpa using ht.symm
          · simp at ht
        subst h3
        exact (show Tryd.prog.wantsStandIn 9 = false by kernel_rfl)⟩)
    (by kernel_rfl)
end fnExactParseSequence
end Go.Proofs.YtinggcjjdgibbabDoor
