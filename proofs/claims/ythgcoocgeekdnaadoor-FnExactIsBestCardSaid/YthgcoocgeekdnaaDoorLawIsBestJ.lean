/- Proved: for every input of the form's own reach the law FnExactIsBest answers true and its arguments read afterwards as before; no further condition. -/
import Derived.Test.YthgcoocgeekdnaaDoorJxB
import Derived.Test.YthgcoocgeekdnaaDoorJxF
import Derived.Test.YthgcoocgeekdnaaDoorHar
import Derived.Test.YthgcoocgeekdnaaDoorJxE
namespace Go.Proofs.YthgcoocgeekdnaaDoor
open Go.RowKit Go.PM Go.PD Go.PF
set_option maxRecDepth 100000 in
set_option maxHeartbeats 1600000 in
theorem exIsBest (w : World) (s0 : ByteArray) (_hs0 : s0.size ≤ maxLen) (xs1 : List ByteArray) (v1 : Value) (hx1 : RdT w v1 xs1) (hz1 : ∀ m ∈ xs1, m.size ≤ 9223372036854775807) (hG : U8w w) :
    Calls Tryd.prog 10 #[.string s0, v1] w fun e w' => e = .returned (.bool true) ∧ Below w.heap.size w w' := by
  by_cases hb0 : 1048576 < s0.size
  · go_enter Tryd.func10, Tryd.ntmps10
    go_wp2
    go_ret
    exact ⟨rfl, Below.refl _ _⟩
  go_enter Tryd.func10, Tryd.ntmps10
  go_wp2_with fail
  refine (szStringS_c xs1 v1 1048576 _ (by decide) (by decide) hx1 hz1).mono ?_
  rintro e w1 ⟨⟨r1, rfl, hr1, hq1⟩, Hw1⟩
  have HR1 := Lib.hid hr1
  clear hr1
  have Bw1 := Hw1
  have Zw1 := Bw1.size
  by_cases hneg1 : r1 < 0
  · go_wp2
    go_ret
    exact ⟨rfl, Bw1⟩
  have hl1 : xs1.length ≤ 1048576 := by have := HR1.out (by omega); have := tsize_len xs1; omega
  have hm1 : tsize xs1 ≤ 1048576 := by have := HR1.out (by omega); omega
  go_wp2_with fail
  refine (toStringS_c xs1 v1 _ (hx1.below Bw1) hl1).mono ?_
  rintro e w2 ⟨uw2, rfl, how2, Hw2⟩
  have Bw2 : Below w.heap.size w w2 := Bw1.trans (Hw2.mono Zw1)
  have Zw2 := Bw2.size
  have Rw2 : RdT w2 uw2 xs1 := Rd.of_own how2
  go_wp2_with fail
  refine (spIsBest_c s0 (by omega) xs1 uw2 _ Rw2 (tsize_mem hm1) hl1).mono ?_
  rintro e w3 ⟨rfl, Hw3⟩
  have Bw3 : Below w.heap.size w w3 := Bw2.trans (Hw3.mono Zw2)
  have Zw3 := Bw3.size
  go_wp2_with fail
  refine (toStringS_c xs1 v1 _ (hx1.below Bw3) hl1).mono ?_
  rintro e w4 ⟨uw4, rfl, how4, Hw4⟩
  have Bw4 : Below w.heap.size w w4 := Bw3.trans (Hw4.mono Zw3)
  have Zw4 := Bw4.size
  have Rw4 : RdT w4 uw4 xs1 := Rd.of_own how4
  go_wp2_with fail
  refine (imIsBest_c s0 (by omega) xs1 uw4 _ (hG.below Bw4) Rw4 (tsize_mem hm1) hl1).mono ?_
  rintro e w5 ⟨rfl, Hw5⟩
  have Bw5 : Below w.heap.size w w5 := Bw4.trans (Hw5.mono Zw4)
  have Zw5 := Bw5.size
  have Q1 : RdT w5 uw4 xs1 := Rw4.below Hw5
  go_wp2_with fail
  refine (toStringS_c xs1 v1 _ (hx1.below Bw5) hl1).mono ?_
  rintro e w6 ⟨uw6, rfl, how6, Hw6⟩
  have Bw6 : Below w.heap.size w w6 := Bw5.trans (Hw6.mono Zw5)
  have Zw6 := Bw6.size
  have Rw6 : RdT w6 uw6 xs1 := Rd.of_own how6
  go_wp2_with fail
  refine (eqStringS_c xs1 xs1 uw4 uw6 _ (Q1.below Hw6) Rw6).mono ?_
  rintro e w7 ⟨he1, Hw7⟩
  rw [show decide (xs1 = xs1) = true by simp] at he1
  subst he1
  have Bw7 : Below w.heap.size w w7 := Bw6.trans (Hw7.mono Zw6)
  have Zw7 := Bw7.size
  go_wp2
  go_ret
  exact ⟨rfl, Bw7⟩

namespace fnExactIsBest
open Go.RowKit Go.PM Go.ChangeShapes Go.WideShapes Go.ChangeAt
open Go.ChangeMaps (open_string shut_string)
set_option maxRecDepth 100000 in
theorem lifted (os : Os) (started : os.Started) (H : Type) (enc : TypeId × Value → H) :
    ReturnsInHanded {} Tryd.checked os 10 .any (fun w args => (Rows.fnExactIsBestSpec.pre enc Tryd.prog Tryd.f10 [] false w args ∧ laidMetH Tryd.prog laidL w) ∧ sizedMet enc Tryd.prog Tryd.f10 (OpenSpec.ofChange Rows.fnExactIsBestSpec) false w args)
      (Rows.fnExactIsBestSpec.post enc Tryd.prog Tryd.f10 false true false false) := by
  refine returnsInHanded_of_change_and (C := Tryd.checked) (X := fun w _ => laidMetH Tryd.prog laidL w) (fun _ _ _ hh h => h.of_heap hh) own started (by kernel_rfl) Tryd.func10
    (ChangeSpec.witness_at (enc := enc) (C := Tryd.checked) (os := os) (X := fun w _ => laidMetH Tryd.prog laidL w) false (laidWorld os) #[.string ⟨#[]⟩, .slice none 0 0] 8 rfl (by kernel_rfl) (by kernel_rfl) (by kernel_rfl) (by kernel_rfl) (by kernel_rfl) (laidWorld_met os _)) ?_
  intro W base args ds gs before hval0 hW _ _ hL _
  have hval : ∀ (j : Nat) t v, Tryd.f10.params[j]? = some t → args[j]? = some v → Value.okWide Tryd.prog W .any base t v := hval0
  have hW' := hW
  obtain ⟨p, q, hA0, hV, rfl, hfz, hnd⟩ := hW
  have hA : DataW.TrodAll enc Tryd.prog W 0 (fun _ => true) true Tryd.f10.params.toList args.toList ds p := hA0
  rw [Tryd.params10] at hA hval
  obtain ⟨v0, vs0, d0, ds0, p0, q0, hargs, rfl, rfl, h0, r0⟩ := trodAll_cons hA
  obtain ⟨v1, vs1, d1, ds1, p1, q1, rfl, rfl, rfl, h1, r1⟩ := trodAll_cons r0
  obtain ⟨rfl, rfl, rfl⟩ := trodAll_nil r1
  obtain rfl : args = #[v0, v1] := by cases args; simp_all
  obtain ⟨rfl, rfl⟩ := trodVars_none hV
  have hG := u8_of_laid hL
  have k0 := h0
  have lt0 : ∀ x ∈ p0, x.block < W.heap.size := by obtain ⟨m, hm⟩ := k0; exact DataW.trod_lt m _ _ _ hm
  have k1 := h1
  have lt1 : ∀ x ∈ p1, x.block < W.heap.size := by obtain ⟨m, hm⟩ := k1; exact DataW.trod_lt m _ _ _ hm
  obtain ⟨s0, rfl, _, _, hs0⟩ := open_string Tryd.underlying9 (hval 0 9 v0 rfl rfl) h0
  obtain ⟨a1, len1, cap1, rfl⟩ := okWide_slice Tryd.underlying23 (hval 1 23 v1 rfl rfl)
  obtain ⟨xs1, hx1, hz1⟩ : ∃ xs : List ByteArray, RdT W (.slice a1 len1 cap1) xs ∧ ∀ m ∈ xs, m.size ≤ 9223372036854775807 := by obtain ⟨fuel, hf⟩ := h1; exact open_texts hf
  clear hA0 hval0
  refine (exIsBest W s0 hs0 xs1 _ hx1 hz1 hG).mono fun e W' ⟨he, bel⟩ => ?_
  subst he
  exact ⟨_, rfl, _, _, _, [], _, [], hW', trodAll_mk1 (shut_bool Tryd.underlying4 _), (trodAll_cons_mk (Below.trod laidOut (by kernel_rfl) (of_decide_eq_true (by kernel_rfl)) k0 bel lt0) (trodAll_cons_mk (Below.trod laidOut (by kernel_rfl) (of_decide_eq_true (by kernel_rfl)) k1 bel lt1) trodAll_mk0)), rfl, bel.frame _, fun h => by cases h⟩

theorem over : Rows.fnExactIsBestRow.holds Tryd.pinned (OpenSpec.ofChange Rows.fnExactIsBestSpec) :=
  OpenClaim.holds_of_wide 10 Tryd.f10 rfl rfl rfl rfl rfl rfl rfl ⟨rfl, rfl, rfl, rfl, rfl⟩ rfl rfl rfl rfl rfl (by kernel_rfl) Tryd.func10 (by kernel_rfl)
    (of_decide_eq_true (by kernel_rfl)) (by unfold Func.isWrapper; first | (rw [if_pos (by decide +kernel)]; kernel_rfl) | (rw [if_neg (by decide +kernel)]; exact ⟨rfl, rfl⟩))
    (fun os started H enc _ => lifted os started H enc)

/-- The statement. -/
theorem proved : Rows.FnExactIsBestCardSaid :=
  Claim7.holds_tied_plain_at .later [] [.data, .pinned] true Rows.fnExactIsBestCard.stood.harness false
    over (fun _ h => by cases h) (by kernel_rfl) (fun _ h => by cases h) fnExactIsBest_row_tie rfl ⟨rfl, rfl⟩ (by kernel_rfl) rfl
    (fun f fn hf hfn => by
      obtain rfl : f = 10 := Option.some.inj ((show Tryd.prog.funcNamed "loop.example/parallelmoves/laws.FnExactIsBest" = some 10 by kernel_rfl).symm.trans hf) |>.symm
      obtain rfl : fn = Tryd.f10 := (Option.some.inj (Tryd.func10.symm.trans hfn)).symm
      exact ⟨by kernel_rfl, fun j t ht => by
        rw [Tryd.params10] at ht
        rcases j with _ | _ | j
        · obtain rfl : t = 9 := by simpa using ht.symm
          exact (show Tryd.prog.wantsStandIn 9 = false by kernel_rfl)
        · obtain rfl : t = 23 := by simpa using ht.symm
          exact (show Tryd.prog.wantsStandIn 23 = false by kernel_rfl)
        · simp at ht⟩)
    (by kernel_rfl)
end fnExactIsBest
end Go.Proofs.YthgcoocgeekdnaaDoor
