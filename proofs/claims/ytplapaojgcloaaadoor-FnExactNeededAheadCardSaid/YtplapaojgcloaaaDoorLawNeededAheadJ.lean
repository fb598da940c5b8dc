/- Proved: for every input of the form's own reach the law FnExactNeededAhead answers true and its arguments read afterwards as before; no further condition. -/
import Derived.Test.YtplapaojgcloaaaDoorWaJD
import Derived.Test.YtplapaojgcloaaaDoorWaJC
import Derived.Test.YtplapaojgcloaaaDoorHar
import Derived.Test.YtplapaojgcloaaaDoorOpen
namespace Go.Proofs.YtplapaojgcloaaaDoor
open Go.RowKit Go.PM Go.PE
set_option maxRecDepth 100000 in
set_option maxHeartbeats 1600000 in
theorem exNeededAhead (w : World) (xs0 : List St) (v0 : Value) (hx0 : RdS w v0 xs0) (hz0 : ∀ m ∈ xs0, m.2.1.size ≤ 9223372036854775807 ∧ m.2.2.size ≤ 9223372036854775807) (s1 : ByteArray) (_hs1 : s1.size ≤ maxLen) (hG : Tz w) :
    Calls Tryd.prog 12 #[v0, .string s1] w fun e w' => e = .returned (.bool true) ∧ Below w.heap.size w w' := by
  by_cases hb1 : 1048576 < s1.size
  · go_enter Tryd.func12, Tryd.ntmps12
    go_wp2
    go_ret
    exact ⟨rfl, Below.refl _ _⟩
  go_enter Tryd.func12, Tryd.ntmps12
  go_wp2_with fail
  refine (szStepS_c xs0 v0 1048576 _ (by decide) (by decide) hx0 hz0).mono ?_
  rintro e w1 ⟨⟨r0, rfl, hr0, hq0⟩, Hw1⟩
  have HR0 := Lib.hid hr0
  clear hr0
  have Bw1 := Hw1
  have Zw1 := Bw1.size
  by_cases hneg0 : r0 < 0
  · go_wp2
    go_ret
    exact ⟨rfl, Bw1⟩
  have hl0 : xs0.length ≤ 1048576 := by have := HR0.out (by omega); have := ssize_len xs0; omega
  have hm0 : ssize xs0 ≤ 1048576 := by have := HR0.out (by omega); omega
  go_wp2_with fail
  refine (toStepS_c xs0 v0 _ (hx0.below Bw1) hl0).mono ?_
  rintro e w2 ⟨uw2, rfl, how2, Hw2⟩
  have Bw2 : Below w.heap.size w w2 := Bw1.trans (Hw2.mono Zw1)
  have Zw2 := Bw2.size
  have Rw2 : RdS w2 uw2 xs0 := Rd.of_own how2
  go_wp2_with fail
  refine (spNeededAhead_c xs0 uw2 s1 (by omega) _ Rw2).mono ?_
  rintro e w3 ⟨rfl, Hw3⟩
  have Bw3 : Below w.heap.size w w3 := Bw2.trans (Hw3.mono Zw2)
  have Zw3 := Bw3.size
  go_wp2_with fail
  refine (toStepS_c xs0 v0 _ (hx0.below Bw3) hl0).mono ?_
  rintro e w4 ⟨uw4, rfl, how4, Hw4⟩
  have Bw4 : Below w.heap.size w w4 := Bw3.trans (Hw4.mono Zw3)
  have Zw4 := Bw4.size
  have Rw4 : RdS w4 uw4 xs0 := Rd.of_own how4
  go_wp2_with fail
  refine (imNeededAhead_c xs0 uw4 s1 (by omega) _ Rw4 (hG.below Bw4)).mono ?_
  rintro e w5 ⟨rfl, Hw5⟩
  have Bw5 : Below w.heap.size w w5 := Bw4.trans (Hw5.mono Zw4)
  have Zw5 := Bw5.size
  have Q0 : RdS w5 uw4 xs0 := Rw4.below Hw5
  go_wp2_with fail
  refine (toStepS_c xs0 v0 _ (hx0.below Bw5) hl0).mono ?_
  rintro e w6 ⟨uw6, rfl, how6, Hw6⟩
  have Bw6 : Below w.heap.size w w6 := Bw5.trans (Hw6.mono Zw5)
  have Zw6 := Bw6.size
  have Rw6 : RdS w6 uw6 xs0 := Rd.of_own how6
  go_wp2_with fail
  refine (eqStepS_c xs0 xs0 uw4 uw6 _ (Q0.below Hw6) Rw6).mono ?_
  rintro e w7 ⟨he0, Hw7⟩
  rw [show decide (xs0 = xs0) = true by simp] at he0
  subst he0
  have Bw7 : Below w.heap.size w w7 := Bw6.trans (Hw7.mono Zw6)
  have Zw7 := Bw7.size
  go_wp2
  go_ret
  exact ⟨rfl, Bw7⟩

namespace fnExactNeededAhead
open Go.RowKit Go.PM Go.ChangeShapes Go.WideShapes Go.ChangeAt
open Go.ChangeMaps (open_string shut_string)
set_option maxRecDepth 100000 in
theorem lifted (os : Os) (started : os.Started) (H : Type) (enc : TypeId × Value → H) :
    ReturnsInHanded {} Tryd.checked os 12 .any (fun w args => (Rows.fnExactNeededAheadSpec.pre enc Tryd.prog Tryd.f12 [] false w args ∧ laidMetH Tryd.prog laidL w) ∧ sizedMet enc Tryd.prog Tryd.f12 (OpenSpec.ofChange Rows.fnExactNeededAheadSpec) false w args)
      (Rows.fnExactNeededAheadSpec.post enc Tryd.prog Tryd.f12 false true false false) := by
  refine returnsInHanded_of_change_and (C := Tryd.checked) (X := fun w _ => laidMetH Tryd.prog laidL w) (fun _ _ _ hh h => h.of_heap hh) own started (by kernel_rfl) Tryd.func12
    (ChangeSpec.witness_at (enc := enc) (C := Tryd.checked) (os := os) (X := fun w _ => laidMetH Tryd.prog laidL w) false (laidWorld os) #[.slice none 0 0, .string ⟨#[]⟩] 8 rfl (by kernel_rfl) (by kernel_rfl) (by kernel_rfl) (by kernel_rfl) (by kernel_rfl) (laidWorld_met os _)) ?_
  intro W base args ds gs before hval0 hW _ _ hL _
  have hval : ∀ (j : Nat) t v, Tryd.f12.params[j]? = some t → args[j]? = some v → Value.okWide Tryd.prog W .any base t v := hval0
  have hW' := hW
  obtain ⟨p, q, hA0, hV, rfl, hfz, hnd⟩ := hW
  have hA : DataW.TrodAll enc Tryd.prog W 0 (fun _ => true) true Tryd.f12.params.toList args.toList ds p := hA0
  rw [Tryd.params12] at hA hval
  obtain ⟨v0, vs0, d0, ds0, p0, q0, hargs, rfl, rfl, h0, r0⟩ := trodAll_cons hA
  obtain ⟨v1, vs1, d1, ds1, p1, q1, rfl, rfl, rfl, h1, r1⟩ := trodAll_cons r0
  obtain ⟨rfl, rfl, rfl⟩ := trodAll_nil r1
  obtain rfl : args = #[v0, v1] := by cases args; simp_all
  obtain ⟨rfl, rfl⟩ := trodVars_none hV
  have hG := tz_of_laid hL
  have k0 := h0
  have lt0 : ∀ x ∈ p0, x.block < W.heap.size := by obtain ⟨m, hm⟩ := k0; exact DataW.trod_lt m _ _ _ hm
  have k1 := h1
  have lt1 : ∀ x ∈ p1, x.block < W.heap.size := by obtain ⟨m, hm⟩ := k1; exact DataW.trod_lt m _ _ _ hm
  obtain ⟨a0, len0, cap0, rfl⟩ := okWide_slice Tryd.underlying52 (hval 0 52 v0 rfl rfl)
  obtain ⟨xs0, hx0, hz0⟩ : ∃ xs : List St, RdS W (.slice a0 len0 cap0) xs ∧ ∀ m ∈ xs, m.2.1.size ≤ 9223372036854775807 ∧ m.2.2.size ≤ 9223372036854775807 := by obtain ⟨fuel, hf⟩ := h0; exact open_steps hf
  obtain ⟨s1, rfl, _, _, hs1⟩ := open_string Tryd.underlying9 (hval 1 9 v1 rfl rfl) h1
  clear hA0 hval0
  refine (exNeededAhead W xs0 _ hx0 hz0 s1 hs1 hG).mono fun e W' ⟨he, bel⟩ => ?_
  subst he
  exact ⟨_, rfl, _, _, _, [], _, [], hW', trodAll_mk1 (shut_bool Tryd.underlying4 _), (trodAll_cons_mk (Below.trod laidOut (by kernel_rfl) (of_decide_eq_true (by kernel_rfl)) k0 bel lt0) (trodAll_cons_mk (Below.trod laidOut (by kernel_rfl) (of_decide_eq_true (by kernel_rfl)) k1 bel lt1) trodAll_mk0)), rfl, bel.frame _, fun h => by cases h⟩

theorem over : Rows.fnExactNeededAheadRow.holds Tryd.pinned (OpenSpec.ofChange Rows.fnExactNeededAheadSpec) :=
  OpenClaim.holds_of_wide 12 Tryd.f12 rfl rfl rfl rfl rfl rfl rfl ⟨rfl, rfl, rfl, rfl, rfl⟩ rfl rfl rfl rfl rfl (by kernel_rfl) Tryd.func12 (by kernel_rfl)
    (of_decide_eq_true (by kernel_rfl)) (by unfold Func.isWrapper; first | (rw [if_pos (by decide +kernel)]; kernel_rfl) | (rw [if_neg (by decide +kernel)]; exact ⟨rfl, rfl⟩))
    (fun os started H enc _ => lifted os started H enc)

/-- The statement. -/
theorem proved : Rows.FnExactNeededAheadCardSaid :=
  Claim7.holds_tied_plain_at .later [] [.data, .data] true Rows.fnExactNeededAheadCard.stood.harness false
    over (fun _ h => by cases h) (by kernel_rfl) (fun _ h => by cases h) fnExactNeededAhead_row_tie rfl ⟨rfl, rfl⟩ (by kernel_rfl) rfl
    (fun f fn hf hfn => by
      obtain rfl : f = 12 := Option.some.inj ((show Tryd.prog.funcNamed "loop.example/parallelmoves/laws.FnExactNeededAhead" = some 12 by kernel_rfl).symm.trans hf) |>.symm
      obtain rfl : fn = Tryd.f12 := (Option.some.inj (Tryd.func12.symm.trans hfn)).symm
      exact ⟨by kernel_rfl, fun j t ht => by
        rw [Tryd.params12] at ht
        rcases j with _ | _ | j
        · obtain rfl : t = 52 := by simpa using ht.symm
          exact (show Tryd.prog.wantsStandIn 52 = false by kernel_rfl)
        · obtain rfl : t = 9 := by simpa using ht.symm
          exact (show Tryd.prog.wantsStandIn 9 = false by kernel_rfl)
        · simp at ht⟩)
    (by kernel_rfl)
end fnExactNeededAhead
end Go.Proofs.YtplapaojgcloaaaDoor
