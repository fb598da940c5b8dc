/- Proved: for every input of the form's own reach the law FnScriptMoves answers true and its arguments read afterwards as before; no further condition. -/
import Derived.Test.YtfedloljhocpgaaGreatDoorZmJE
import Derived.Test.YtfedloljhocpgaaGreatDoorZmJF
import Derived.Test.YtfedloljhocpgaaGreatDoorZmJC
namespace Go.Proofs.YtfedloljhocpgaaGreatDoor
namespace fnScriptMoves
open Go.RowKit Go.PM Go.PG Go.ChangeShapes Go.WideShapes Go.ChangeAt
open Go.ChangeMaps (open_string shut_string)
set_option maxRecDepth 100000 in
theorem lifted (os : Os) (started : os.Started) (H : Type) (enc : TypeId × Value → H) :
    ReturnsInLeavingWide {} Tryz.checked os 3 .any (fun w args => (Rows.fnScriptMovesSpec.pre enc Tryz.prog Tryz.f3 [] false w args ∧ laidMetH Tryz.prog laidL w) ∧ sizedMet enc Tryz.prog Tryz.f3 (OpenSpec.ofChange Rows.fnScriptMovesSpec) false w args)
      (Rows.fnScriptMovesSpec.post enc Tryz.prog Tryz.f3 false true false false) := by
  refine returnsInLeavingWide_of_change_and (C := Tryz.checked) (X := fun w _ => laidMetH Tryz.prog laidL w) (fun _ _ _ hh h => h.of_heap hh) own started (by kernel_rfl) Tryz.func3
    (ChangeSpec.witness_shaped (enc := enc) (C := Tryz.checked) (os := os) (X := fun w _ => laidMetH Tryz.prog laidL w) false (laidWorld os) #[.slice none 0 0] 8 (laidWorld_os os) (World.shaped_of_ZipB (by kernel_rfl) (by kernel_rfl)) (by kernel_rfl) (by kernel_rfl) (by kernel_rfl) (laidWorld_met os _)) ?_
  intro W base args ds gs before hsh hval0 hW _ _ hL _
  have hval : ∀ (j : Nat) t v, Tryz.f3.params[j]? = some t → args[j]? = some v → Value.okWide Tryz.prog W .any base t v := hval0
  have hW' := hW
  obtain ⟨p, q, hA0, hV0, rfl, hfz, hnd⟩ := hW
  have hA : DataW.TrodAll enc Tryz.prog W 0 (fun _ => true) true Tryz.f3.params.toList args.toList ds p := hA0
  have hV : DataW.TrodVars enc Tryz.prog W (fun _ => true) ["loop.example/parallelmoves/impl.stepSigns"] gs q := hV0
  rw [Tryz.params3] at hA hval
  obtain ⟨v0, vs0, d0, ds0, p0, q0, hargs, rfl, rfl, h0, r0⟩ := trodAll_cons hA
  obtain ⟨rfl, rfl, rfl⟩ := trodAll_nil r0
  obtain rfl : args = #[v0] := by cases args; simp_all
  obtain ⟨g1, q1, rfl, hG, hvars⟩ := signs_open hL hV
  have k0 := h0
  have lt0 : ∀ x ∈ p0, x.block < W.heap.size := by obtain ⟨m, hm⟩ := k0; exact DataW.trod_lt m _ _ _ hm
  obtain ⟨a0, len0, cap0, rfl⟩ := okWide_slice Tryz.underlying22 (hval 0 22 v0 rfl rfl)
  have hx0 : RdB W W.heap.size (.slice a0 len0 cap0) len0 := by obtain ⟨fuel, hf⟩ := h0; exact open_bytes hf
  clear hA0 hval0 hV0
  refine (exScriptMoves W _ len0 hx0 hG (tp_of_laid hL) (et_of_laid hL) (ml_of_shaped hsh)).mono fun e W' ⟨he, bel⟩ => ?_
  subst he
  exact ⟨_, rfl, _, _, _, [], _, _, hW', trodAll_mk1 (shut_bool Tryz.underlying4 _), (trodAll_cons_mk (Below.trod laidOut (by kernel_rfl) (of_decide_eq_true (by kernel_rfl)) k0 bel lt0) trodAll_mk0), hvars W' bel _, bel.frame _, fun h => by cases h⟩

theorem cIn : (Rows.fnScriptMovesRow.inPlace == Tryz.prog.inPlace 3) = true := by kernel_rfl
theorem cUn : (Rows.fnScriptMovesRow.unfollowed == Tryz.prog.unfollowed 3) = true := by kernel_rfl
theorem cRe : (Rows.fnScriptMovesRow.recurses == Tryz.prog.recurses 3) = true := by kernel_rfl
theorem cNa : (Rows.fnScriptMovesRow.named == Tryz.prog.varsNamed 3) = true := by kernel_rfl
theorem cAll : joinedFacts Tryz.prog 3 Tryz.f3 Rows.fnScriptMovesSpec Rows.fnScriptMovesRow = true := by
  unfold joinedFacts
  rw [cIn, cUn, cRe, cNa]
  kernel_rfl
theorem cName : Tryz.prog.funcNamed "loop.example/parallelmoves/laws.FnScriptMoves" = some 3 := by kernel_rfl
theorem cWf : Rows.fnScriptMovesRow.wfByText (OpenSpec.ofChange Rows.fnScriptMovesSpec) = true := by kernel_rfl
theorem cMain : Tryz.prog.mainIs = some (Rows.fnScriptMovesCard.stood.harness.1, Rows.fnScriptMovesCard.stood.harness.2.toList) := by kernel_rfl
theorem cLooks : true = Tryz.prog.looks [] := by kernel_rfl
theorem cGoes : true = Rows.fnScriptMovesRow.goesBy Tryz.prog := by kernel_rfl
theorem over : Rows.fnScriptMovesRow.holds Tryz.pinned (OpenSpec.ofChange Rows.fnScriptMovesSpec) :=
  OpenClaim.holds_of_wide_leaving 3 Tryz.f3 rfl rfl rfl rfl rfl rfl rfl ⟨rfl, rfl, rfl, rfl, rfl⟩ rfl rfl rfl rfl rfl cName Tryz.func3 cAll
    (of_decide_eq_true (by kernel_rfl)) (by unfold Func.isWrapper; first | (rw [if_pos (by decide +kernel)]; kernel_rfl) | (rw [if_neg (by decide +kernel)]; exact ⟨rfl, rfl⟩))
    (fun os started H enc _ => lifted os started H enc)

theorem proved : Rows.FnScriptMovesCardSaid :=
  holds_tied_plain_goes .later [] [.data, .data, .data, .data, .handle, .sentinel, .sentinel, .data, .pinned] true Rows.fnScriptMovesCard.stood.harness true
    over (fun _ h => by cases h) cWf (fun _ h => by cases h) fnScriptMoves_row_tie rfl ⟨rfl, rfl⟩ cMain rfl
    (fun f fn hf hfn => by
      obtain rfl : f = 3 := Option.some.inj (cName.symm.trans hf) |>.symm
      obtain rfl : fn = Tryz.f3 := (Option.some.inj (Tryz.func3.symm.trans hfn)).symm
      exact ⟨cLooks, fun j t ht => by
        rw [Tryz.params3] at ht
        rcases j with _ | j
        · obtain rfl : t = 22 := by simpa using ht.symm
          exact (show Tryz.prog.wantsStandIn 22 = false by kernel_rfl)
        · simp at ht⟩)
    cGoes
end fnScriptMoves
end Go.Proofs.YtfedloljhocpgaaGreatDoor
