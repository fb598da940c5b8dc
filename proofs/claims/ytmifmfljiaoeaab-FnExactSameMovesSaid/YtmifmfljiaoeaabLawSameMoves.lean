/- Proved: for every input of the form's own reach the law FnExactSameMoves answers true and its arguments read afterwards as before; no further condition. -/
import Derived.Test.YtmifmfljiaoeaabSame
import Derived.Test.YtmifmfljiaoeaabHar
import Derived.Test.YtmifmfljiaoeaabOpen
namespace Go.Proofs.Ytmifmfljiaoeaab
open Go.RowKit Go.PM
set_option maxRecDepth 100000 in
set_option maxHeartbeats 1600000 in
theorem exSameMoves (w : World) (xs0 : List Mv) (v0 : Value) (hx0 : RdM w v0 xs0) (hz0 : ∀ m ∈ xs0, m.1.size ≤ 9223372036854775807 ∧ m.2.size ≤ 9223372036854775807) (xs1 : List Mv) (v1 : Value) (hx1 : RdM w v1 xs1) (hz1 : ∀ m ∈ xs1, m.1.size ≤ 9223372036854775807 ∧ m.2.size ≤ 9223372036854775807) :
    Calls Try.prog 6 #[v0, v1] w fun e w' => e = .returned (.bool true) ∧ Below w.heap.size w w' := by
  go_enter Try.func6, Try.ntmps6
  go_wp2_with fail
  refine (szMoveS_c xs0 v0 1048576 _ (by decide) (by decide) hx0 hz0).mono ?_
  rintro e w1 ⟨⟨r0, rfl, hr0, hq0⟩, Hw1⟩
  have HR0 := Lib.hid hr0
  clear hr0
  have Bw1 := Hw1
  have Zw1 := Bw1.size
  by_cases hneg0 : r0 < 0
  · go_wp2
    go_ret
    exact ⟨rfl, Bw1⟩
  have hl0 : xs0.length ≤ 1048576 := by have := HR0.out (by omega); have := msize_len xs0; omega
  have hm0 : msize xs0 ≤ 1048576 := by have := HR0.out (by omega); omega
  go_wp2_with fail
  refine (szMoveS_c xs1 v1 r0 _ (by omega) (by omega) (hx1.below Bw1) hz1).mono ?_
  rintro e w2 ⟨⟨r1, rfl, hr1, hq1⟩, Hw2⟩
  have HR1 := Lib.hid hr1
  clear hr1
  have Bw2 : Below w.heap.size w w2 := Bw1.trans (Hw2.mono Zw1)
  have Zw2 := Bw2.size
  by_cases hneg1 : r1 < 0
  · go_wp2
    go_ret
    exact ⟨rfl, Bw2⟩
  have hl1 : xs1.length ≤ 1048576 := by have := HR1.out (by omega); have := msize_len xs1; omega
  have hm1 : msize xs1 ≤ 1048576 := by have := HR1.out (by omega); omega
  go_wp2_with fail
  refine (toMoveS_c xs0 v0 _ (hx0.below Bw2) hl0).mono ?_
  rintro e w3 ⟨uw3, rfl, how3, Hw3⟩
  have Bw3 : Below w.heap.size w w3 := Bw2.trans (Hw3.mono Zw2)
  have Zw3 := Bw3.size
  have Rw3 : RdM w3 uw3 xs0 := Rd.of_own how3
  go_wp2_with fail
  refine (toMoveS_c xs1 v1 _ (hx1.below Bw3) hl1).mono ?_
  rintro e w4 ⟨uw4, rfl, how4, Hw4⟩
  have Bw4 : Below w.heap.size w w4 := Bw3.trans (Hw4.mono Zw3)
  have Zw4 := Bw4.size
  have Rw4 : RdM w4 uw4 xs1 := Rd.of_own how4
  have Rw3x : RdM w4 uw3 xs0 := Rw3.below Hw4
  go_wp2_with fail
  refine (spSameMoves_c xs0 xs1 uw3 uw4 _ Rw3x Rw4 hz0 hl0 hz1 hl1).mono ?_
  rintro e w5 ⟨rfl, Hw5⟩
  have Bw5 : Below w.heap.size w w5 := Bw4.trans (Hw5.mono Zw4)
  have Zw5 := Bw5.size
  go_wp2_with fail
  refine (toMoveS_c xs0 v0 _ (hx0.below Bw5) hl0).mono ?_
  rintro e w6 ⟨uw6, rfl, how6, Hw6⟩
  have Bw6 : Below w.heap.size w w6 := Bw5.trans (Hw6.mono Zw5)
  have Zw6 := Bw6.size
  have Rw6 : RdM w6 uw6 xs0 := Rd.of_own how6
  go_wp2_with fail
  refine (toMoveS_c xs1 v1 _ (hx1.below Bw6) hl1).mono ?_
  rintro e w7 ⟨uw7, rfl, how7, Hw7⟩
  have Bw7 : Below w.heap.size w w7 := Bw6.trans (Hw7.mono Zw6)
  have Zw7 := Bw7.size
  have Rw7 : RdM w7 uw7 xs1 := Rd.of_own how7
  have Rw6x : RdM w7 uw6 xs0 := Rw6.below Hw7
  go_wp2_with fail
  refine (imSameMoves_c xs0 xs1 uw6 uw7 _ Rw6x Rw7).mono ?_
  rintro e w8 ⟨rfl, Hw8⟩
  have Bw8 : Below w.heap.size w w8 := Bw7.trans (Hw8.mono Zw7)
  have Zw8 := Bw8.size
  have Q0 : RdM w8 uw6 xs0 := Rw6x.below Hw8
  have Q1 : RdM w8 uw7 xs1 := Rw7.below Hw8
  go_wp2_with fail
  refine (toMoveS_c xs0 v0 _ (hx0.below Bw8) hl0).mono ?_
  rintro e w9 ⟨uw9, rfl, how9, Hw9⟩
  have Bw9 : Below w.heap.size w w9 := Bw8.trans (Hw9.mono Zw8)
  have Zw9 := Bw9.size
  have Rw9 : RdM w9 uw9 xs0 := Rd.of_own how9
  go_wp2_with fail
  refine (eqMoveS_c xs0 xs0 uw6 uw9 _ (Q0.below Hw9) Rw9).mono ?_
  rintro e w10 ⟨he0, Hw10⟩
  rw [show decide (xs0 = xs0) = true by simp] at he0
  subst he0
  have Bw10 : Below w.heap.size w w10 := Bw9.trans (Hw10.mono Zw9)
  have Zw10 := Bw10.size
  replace Q1 := (Q1.below Hw9).below Hw10
  go_wp2_with fail
  refine (toMoveS_c xs1 v1 _ (hx1.below Bw10) hl1).mono ?_
  rintro e w11 ⟨uw11, rfl, how11, Hw11⟩
  have Bw11 : Below w.heap.size w w11 := Bw10.trans (Hw11.mono Zw10)
  have Zw11 := Bw11.size
  have Rw11 : RdM w11 uw11 xs1 := Rd.of_own how11
  go_wp2_with fail
  refine (eqMoveS_c xs1 xs1 uw7 uw11 _ (Q1.below Hw11) Rw11).mono ?_
  rintro e w12 ⟨he1, Hw12⟩
  rw [show decide (xs1 = xs1) = true by simp] at he1
  subst he1
  have Bw12 : Below w.heap.size w w12 := Bw11.trans (Hw12.mono Zw11)
  have Zw12 := Bw12.size
  go_wp2
  go_ret
  exact ⟨rfl, Bw12⟩

namespace fnExactSameMoves
open Go.RowKit Go.PM Go.ChangeShapes Go.WideShapes Go.ChangeAt
open Go.ChangeMaps (open_string shut_string)
set_option maxRecDepth 100000 in
theorem lifted (os : Os) (started : os.Started) (H : Type) (enc : TypeId × Value → H) :
    ReturnsInHanded {} Try.checked os 6 .any (Rows.fnExactSameMovesSpec.pre6 enc Try.prog Try.f6 Rows.fnExactSameMovesRow.domain false) (Rows.fnExactSameMovesSpec.post enc Try.prog Try.f6 false true false false) := by
  refine returnsInHanded_of_change (C := Try.checked) own started (by kernel_rfl) Try.func6
    (ChangeSpec.witness6 (enc := enc) (C := Try.checked) false ⟨#[], #[.slice none 0 0, .slice none 0 0], []⟩ 8 (by kernel_rfl) (by kernel_rfl) (by kernel_rfl) (by kernel_rfl)) ?_
  intro W base args ds gs before hval0 hW hcnd _
  have hval : ∀ (j : Nat) t v, Try.f6.params[j]? = some t → args[j]? = some v → Value.okWide Try.prog W .any base t v := hval0
  have hW' := hW
  obtain ⟨p, q, hA0, hV, rfl, hfz, hnd⟩ := hW
  have hA : DataW.TrodAll enc Try.prog W 0 (fun _ => true) true Try.f6.params.toList args.toList ds p := hA0
  rw [Try.params6] at hA hval
  obtain ⟨v0, vs0, d0, ds0, p0, q0, hargs, rfl, rfl, h0, r0⟩ := trodAll_cons hA
  obtain ⟨v1, vs1, d1, ds1, p1, q1, rfl, rfl, rfl, h1, r1⟩ := trodAll_cons r0
  obtain ⟨rfl, rfl, rfl⟩ := trodAll_nil r1
  obtain rfl : args = #[v0, v1] := by cases args; simp_all
  obtain ⟨rfl, rfl⟩ := trodVars_none hV
  have k0 := h0
  have lt0 : ∀ x ∈ p0, x.block < W.heap.size := by obtain ⟨m, hm⟩ := k0; exact DataW.trod_lt m _ _ _ hm
  have k1 := h1
  have lt1 : ∀ x ∈ p1, x.block < W.heap.size := by obtain ⟨m, hm⟩ := k1; exact DataW.trod_lt m _ _ _ hm
  obtain ⟨a0, len0, cap0, rfl⟩ := okWide_slice Try.underlying40 (hval 0 40 v0 rfl rfl)
  obtain ⟨xs0, hx0, hz0⟩ : ∃ xs : List Mv, RdM W (.slice a0 len0 cap0) xs ∧ ∀ m ∈ xs, m.1.size ≤ 9223372036854775807 ∧ m.2.size ≤ 9223372036854775807 := by obtain ⟨fuel, hf⟩ := h0; exact open_moves hf
  obtain ⟨a1, len1, cap1, rfl⟩ := okWide_slice Try.underlying40 (hval 1 40 v1 rfl rfl)
  obtain ⟨xs1, hx1, hz1⟩ : ∃ xs : List Mv, RdM W (.slice a1 len1 cap1) xs ∧ ∀ m ∈ xs, m.1.size ≤ 9223372036854775807 ∧ m.2.size ≤ 9223372036854775807 := by obtain ⟨fuel, hf⟩ := h1; exact open_moves hf
  clear hA0 hval0
  refine (exSameMoves W xs0 _ hx0 hz0 xs1 _ hx1 hz1).mono fun e W' ⟨he, bel⟩ => ?_
  subst he
  exact ⟨_, rfl, _, _, _, [], _, [], hW', trodAll_mk1 (shut_bool Try.underlying4 _), (trodAll_cons_mk (Below.trod laidOut (by kernel_rfl) (of_decide_eq_true (by kernel_rfl)) k0 bel lt0) (trodAll_cons_mk (Below.trod laidOut (by kernel_rfl) (of_decide_eq_true (by kernel_rfl)) k1 bel lt1) trodAll_mk0)), rfl, bel.frame _, fun h => by cases h⟩

theorem over : Rows.fnExactSameMovesRow.holds Try.pinned (OpenSpec.ofChange Rows.fnExactSameMovesSpec) :=
  OpenClaim.holds_of_wide 6 Try.f6 rfl rfl rfl rfl rfl rfl rfl ⟨rfl, rfl, rfl, rfl, rfl⟩ rfl rfl rfl rfl rfl (by kernel_rfl) Try.func6 (by kernel_rfl)
    (of_decide_eq_true (by kernel_rfl)) (by unfold Func.isWrapper; first | (rw [if_pos (by decide +kernel)]; kernel_rfl) | (rw [if_neg (by decide +kernel)]; exact ⟨rfl, rfl⟩))
    (fun os started H enc _ => lifted os started H enc)

/-- The statement. -/
theorem proved : Rows.FnExactSameMovesSaid := over
end fnExactSameMoves
end Go.Proofs.Ytmifmfljiaoeaab
