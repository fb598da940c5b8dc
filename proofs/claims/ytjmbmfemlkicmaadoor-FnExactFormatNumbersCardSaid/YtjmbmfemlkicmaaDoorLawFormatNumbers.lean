/- Proved: for every input of the form's own reach the law FnExactFormatNumbers answers true and its argument reads afterwards as before; no further condition. -/
import Derived.Test.YtjmbmfemlkicmaaDoorNuI
import Derived.Test.YtjmbmfemlkicmaaDoorHarI
import Derived.Test.YtjmbmfemlkicmaaDoorCardN
import Derived.Test.YtjmbmfemlkicmaaDoorOpen
namespace Go.Proofs.YtjmbmfemlkicmaaDoor
open Go.RowKit Go.PM Go.PG
set_option maxRecDepth 100000 in
set_option maxHeartbeats 1600000 in
theorem exFormatNumbers (w : World) (xs0 : List Int) (v0 : Value) (hx0 : RdI w v0 xs0) (hz0 : ∀ m ∈ xs0, i64ok m) (hG : Tp w) :
    Calls Tryd.prog 4 #[v0] w fun e w' => e = .returned (.bool true) ∧ Below w.heap.size w w' := by
  have hx0' := hx0
  obtain ⟨A0, c0, rfl, _, _, _⟩ := hx0'
  by_cases hb0 : 1048576 < xs0.length
  · have t0 : decide ((xs0.length : Int) > 1048576) = true := decide_eq_true (by omega)
    go_enter Tryd.func4, Tryd.ntmps4
    go_wp2
    go_ret
    exact ⟨rfl, Below.refl _ _⟩
  have t0 : decide ((xs0.length : Int) > 1048576) = false := decide_eq_false (by omega)
  have hl0 : xs0.length ≤ 1048576 := by omega
  have HZ := Lib.hid hz0
  clear hz0 hb0
  go_enter Tryd.func4, Tryd.ntmps4
  go_wp2_with fail
  refine (toIntS_c xs0 _ _ hx0 hl0).mono ?_
  rintro e w1 ⟨u1, rfl, ho1, B1⟩
  have Z1 := B1.size
  have R1 : RdI w1 u1 xs0 := Rd.of_own ho1
  clear ho1
  go_wp2_with fail
  refine (spFormatNumbers_c xs0 _ _ R1 HZ.out hl0).mono ?_
  rintro e w2 ⟨rfl, B2'⟩
  have B2 := B1.trans (B2'.mono Z1)
  have Z2 := B2.size
  clear R1 B2' B1 Z1
  go_wp2_with fail
  refine (toIntS_c xs0 _ _ (hx0.below B2) hl0).mono ?_
  rintro e w3 ⟨u3, rfl, ho3, B3'⟩
  have B3 := B2.trans (B3'.mono Z2)
  have Z3 := B3.size
  have R3 : RdI w3 u3 xs0 := Rd.of_own ho3
  clear ho3 B3' B2 Z2
  go_wp2_with fail
  refine (imFormatNumbers_c xs0 _ _ (hG.below B3) R3 HZ.out hl0).mono ?_
  rintro e w4 ⟨rfl, B4'⟩
  have B4 := B3.trans (B4'.mono Z3)
  have Z4 := B4.size
  have R4 := R3.below B4'
  clear R3 B4' B3 Z3
  go_wp2_with fail
  refine (toIntS_c xs0 _ _ (hx0.below B4) hl0).mono ?_
  rintro e w5 ⟨u5, rfl, ho5, B5'⟩
  have B5 := B4.trans (B5'.mono Z4)
  have Z5 := B5.size
  have R5 : RdI w5 u5 xs0 := Rd.of_own ho5
  have R4' := R4.below B5'
  clear ho5 B5' B4 Z4 R4
  go_wp2_with fail
  refine (eqIntS_c xs0 _ _ _ R4' R5).mono ?_
  rintro e w6 ⟨rfl, B6'⟩
  have B6 := B5.trans (B6'.mono Z5)
  go_wp2
  go_ret
  exact ⟨rfl, B6⟩

namespace fnExactFormatNumbers
open Go.RowKit Go.PM Go.ChangeShapes Go.WideShapes Go.ChangeAt
open Go.ChangeMaps (open_string shut_string)
set_option maxRecDepth 100000 in
theorem lifted (os : Os) (started : os.Started) (H : Type) (enc : TypeId × Value → H) :
    ReturnsInHanded {} Tryd.checked os 4 .any (fun w args => (Rows.fnExactFormatNumbersSpec.pre enc Tryd.prog Tryd.f4 [] false w args ∧ laidMetH Tryd.prog laidL w) ∧ sizedMet enc Tryd.prog Tryd.f4 (OpenSpec.ofChange Rows.fnExactFormatNumbersSpec) false w args)
      (Rows.fnExactFormatNumbersSpec.post enc Tryd.prog Tryd.f4 false true false false) := by
  refine returnsInHanded_of_change_and (C := Tryd.checked) (X := fun w _ => laidMetH Tryd.prog laidL w) (fun _ _ _ hh h => h.of_heap hh) own started (by kernel_rfl) Tryd.func4
    (ChangeSpec.witness_at (enc := enc) (C := Tryd.checked) (os := os) (X := fun w _ => laidMetH Tryd.prog laidL w) false (laidWorld os) #[.slice none 0 0] 8 rfl (by kernel_rfl) (by kernel_rfl) (by kernel_rfl) (by kernel_rfl) (by kernel_rfl) (laidWorld_met os _)) ?_
  intro W base args ds gs before hval0 hW _ _ hL _
  have hval : ∀ (j : Nat) t v, Tryd.f4.params[j]? = some t → args[j]? = some v → Value.okWide Tryd.prog W .any base t v := hval0
  have hW' := hW
  obtain ⟨p, q, hA0, hV, rfl, hfz, hnd⟩ := hW
  have hA : DataW.TrodAll enc Tryd.prog W 0 (fun _ => true) true Tryd.f4.params.toList args.toList ds p := hA0
  rw [Tryd.params4] at hA hval
  obtain ⟨v0, vs0, d0, ds0, p0, q0, hargs, rfl, rfl, h0, r0⟩ := trodAll_cons hA
  obtain ⟨rfl, rfl, rfl⟩ := trodAll_nil r0
  obtain rfl : args = #[v0] := by cases args; simp_all
  obtain ⟨rfl, rfl⟩ := trodVars_none hV
  have hG := tp_of_laid hL
  have k0 := h0
  have lt0 : ∀ x ∈ p0, x.block < W.heap.size := by obtain ⟨m, hm⟩ := k0; exact DataW.trod_lt m _ _ _ hm
  obtain ⟨a0, len0, cap0, rfl⟩ := okWide_slice Tryd.underlying23 (hval 0 23 v0 rfl rfl)
  obtain ⟨xs0, hx0, hz0⟩ : ∃ xs : List Int, RdI W (.slice a0 len0 cap0) xs ∧ ∀ m ∈ xs, i64ok m := by obtain ⟨fuel, hf⟩ := h0; exact open_nums hf
  clear hA0 hval0
  refine (exFormatNumbers W xs0 _ hx0 hz0 hG).mono fun e W' ⟨he, bel⟩ => ?_
  subst he
  exact ⟨_, rfl, _, _, _, [], _, [], hW', trodAll_mk1 (shut_bool Tryd.underlying4 _), (trodAll_cons_mk (Below.trod laidOut (by kernel_rfl) (of_decide_eq_true (by kernel_rfl)) k0 bel lt0) trodAll_mk0), rfl, bel.frame _, fun h => by cases h⟩

theorem over : Rows.fnExactFormatNumbersRow.holds Tryd.pinned (OpenSpec.ofChange Rows.fnExactFormatNumbersSpec) :=
  OpenClaim.holds_of_wide 4 Tryd.f4 rfl rfl rfl rfl rfl rfl rfl ⟨rfl, rfl, rfl, rfl, rfl⟩ rfl rfl rfl rfl rfl (by kernel_rfl) Tryd.func4 (by kernel_rfl)
    (of_decide_eq_true (by kernel_rfl)) (by unfold Func.isWrapper; first | (rw [if_pos (by decide +kernel)]; kernel_rfl) | (rw [if_neg (by decide +kernel)]; exact ⟨rfl, rfl⟩))
    (fun os started H enc _ => lifted os started H enc)

/-- The statement. -/
theorem proved : Rows.FnExactFormatNumbersCardSaid :=
  Claim7.holds_tied_plain_at .later [] [.data, .data, .data] true Rows.fnExactFormatNumbersCard.stood.harness false
    over (fun _ h => by cases h) (by kernel_rfl) (fun _ h => by cases h) fnExactFormatNumbers_row_tie rfl ⟨rfl, rfl⟩ (by kernel_rfl) rfl
    (fun f fn hf hfn => by
      obtain rfl : f = 4 := Option.some.inj ((show Tryd.prog.funcNamed "loop.example/parallelmoves/laws.FnExactFormatNumbers" = some 4 by kernel_rfl).symm.trans hf) |>.symm
      obtain rfl : fn = Tryd.f4 := (Option.some.inj (Tryd.func4.symm.trans hfn)).symm
      exact ⟨by kernel_rfl, fun j t ht => by
        rw [Tryd.params4] at ht
        rcases j with _ | j
        · obtain rfl : t = 23 := by simpa using ht.symm
          exact (show Tryd.prog.wantsStandIn 23 = false by kernel_rfl)
        · simp at ht⟩)
    (by kernel_rfl)
end fnExactFormatNumbers
end Go.Proofs.YtjmbmfemlkicmaaDoor
