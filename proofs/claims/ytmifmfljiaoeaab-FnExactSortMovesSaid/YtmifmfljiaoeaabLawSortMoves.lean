/- Proved: for every list of moves (of the form's own reach) the law FnExactSortMoves answers true and its argument reads afterwards as before; no further condition. -/
import Derived.Test.YtmifmfljiaoeaabSort
import Derived.Test.YtmifmfljiaoeaabMark
import Derived.Test.YtmifmfljiaoeaabOpen
namespace Go.Proofs.Ytmifmfljiaoeaab
open Go.RowKit Go.PM
theorem sortM_len (xs : List Mv) : (sortM xs).length ≤ 9 := by
  by_cases h : MV xs
  · rw [sortM_mvT h]; exact mvT_len _ (List.prefix_refl _)
  · have hm : mvalid xs = false := by simpa [mvalid] using h
    rw [show sortM xs = [] from if_neg (by rw [hm]; decide)]
    simp
set_option maxRecDepth 100000 in
set_option maxHeartbeats 3200000 in
theorem exSortMoves (w : World) (xs : List Mv) (v : Value) (hx : RdM w v xs) (hz : ∀ m ∈ xs, m.1.size ≤ 9223372036854775807 ∧ m.2.size ≤ 9223372036854775807) :
    Calls Try.prog 5 #[v] w fun e w' => e = .returned (.bool true) ∧ Below w.heap.size w w' := by
  obtain ⟨ys, hys⟩ : ∃ ys, ys = sortM xs := ⟨_, rfl⟩
  have hyl : ys.length ≤ 9 := by rw [hys]; exact sortM_len xs
  have HYS := Lib.hid hys
  clear hys
  go_enter Try.func5, Try.ntmps5
  go_wp2_with fail
  refine (szMoveS_c xs v 1048576 _ (by decide) (by decide) hx hz).mono ?_
  rintro e w1 ⟨⟨r, rfl, hr, hq⟩, h1⟩
  have HR := Lib.hid hr
  clear hr
  have z1 := h1.size
  by_cases hneg : r < 0
  · go_wp2
    go_ret
    exact ⟨rfl, h1⟩
  have hl : xs.length ≤ 1048576 := by have := HR.out (by omega); have := msize_len xs; omega
  have hly : ys.length ≤ 1048576 := by omega
  go_wp2_with fail
  refine (toMoveS_c xs v _ (hx.below h1) hl).mono ?_
  rintro e w2 ⟨u2, rfl, o2, h2⟩
  have b2 := h1.trans (h2.mono z1)
  have z2 := b2.size
  have r2 : RdM w2 u2 xs := Rd.of_own o2
  go_wp2_with fail
  refine (spSortMoves_c xs u2 _ r2 hz hl).mono ?_
  rw [show sortM xs = ys from HYS.out.symm]
  rintro e w3 ⟨vs, rfl, o3, h3⟩
  have b3 := b2.trans (h3.mono z2)
  have z3 := b3.size
  have z23 := h3.size
  go_wp2_with fail
  refine (toMoveS_c xs v _ (hx.below b3) hl).mono ?_
  rintro e w4 ⟨x0, rfl, o4, h4⟩
  have b4 := b3.trans (h4.mono z3)
  have z4 := b4.size
  have z34 := h4.size
  have r4 : RdM w4 x0 xs := Rd.of_own o4
  have s4 := own_keep o3 h4
  go_wp2_with fail
  refine (imSortMoves_c xs x0 _ r4).mono ?_
  rw [show sortM xs = ys from HYS.out.symm]
  rintro e w5 ⟨g0, rfl, o5, h5⟩
  have b5 := b4.trans (h5.mono z4)
  have z5 := b5.size
  have z45 := h5.size
  have s5 := own_keep s4 h5
  have x5 := own_keep o4 h5
  have nsx := own_ne o3 o4 (Nat.le_refl _)
  have nxg := own_ne o4 o5 (Nat.le_refl _)
  have nsg := own_ne s4 o5 (Nat.le_refl _)
  have ngx : g0.ownBlock ≠ x0.ownBlock ∨ x0.ownBlock = none := by
    rcases nxg with hh | hh
    · exact .inl hh.symm
    · by_cases hx0 : x0.ownBlock = none
      · exact .inr hx0
      · exact .inl (by rw [hh]; exact fun e => hx0 e.symm)
  go_wp2_with fail
  refine (eqMoveS_c ys ys g0 vs _ (Rd.of_own o5) (Rd.of_own s5)).mono ?_
  rintro e w6 ⟨he, h6⟩
  rw [show decide (ys = ys) = true by simp] at he
  subst he
  have b6 := b5.trans (h6.mono z5)
  have z6 := b6.size
  have z56 := h6.size
  go_wp2_with fail
  refine (toMoveS_c xs v _ (hx.below b6) hl).mono ?_
  rintro e w7 ⟨u7, rfl, o7, h7⟩
  have b7 := b6.trans (h7.mono z6)
  have z7 := b7.size
  have z67 := h7.size
  have x7 := own_keep (own_keep x5 h6) h7
  go_wp2_with fail
  refine (eqMoveS_c xs xs x0 u7 _ (Rd.of_own x7) (Rd.of_own o7)).mono ?_
  rintro e w8 ⟨he, h8⟩
  rw [show decide (xs = xs) = true by simp] at he
  subst he
  have b8 := b7.trans (h8.mono z7)
  have z8 := b8.size
  have z78 := h8.size
  have x8 := own_keep x7 h8
  have g8 := own_keep (own_keep (own_keep o5 h6) h7) h8
  have s8 := own_keep (own_keep (own_keep s5 h6) h7) h8
  go_wp2_with fail
  refine (markMoveS_c xs x0 _ 1 _ x8 hl (by decide) (by decide)).mono ?_
  rintro e w9 ⟨rfl, _, h9⟩
  have b9 := b8.trans (below_grown h9 (B := w.heap.size) z8 (fun g hg => by have := own_block_ge o4 g hg; omega))
  have z9 := b9.size
  have z89 := h9.size
  have g9 := own_grown g8 h9 ngx
  have s9 := own_grown s8 h9 nsx
  go_wp2_with fail
  refine (eqMoveS_c ys ys g0 vs _ (Rd.of_own g9) (Rd.of_own s9)).mono ?_
  rintro e w10 ⟨he, h10⟩
  rw [show decide (ys = ys) = true by simp] at he
  subst he
  have b10 := b9.trans (h10.mono z9)
  have z10 := b10.size
  have z910 := h10.size
  have g10 := own_keep g9 h10
  have s10 := own_keep s9 h10
  go_wp2_with fail
  refine (markMoveS_c ys g0 _ 1 _ g10 hly (by decide) (by decide)).mono ?_
  rintro e w11 ⟨rfl, g11, h11⟩
  have b11 := b10.trans (below_grown h11 (B := w.heap.size) z10 (fun g hg => by have := own_block_ge o5 g hg; omega))
  have z11 := b11.size
  have s11 := own_grown s10 h11 nsg
  have k11 : RdM w11 g0 (marks ys.length 1) := by
    have := Rd.of_own g11
    unfold RdM; rw [marks_length]; exact this
  go_wp2_with fail
  refine (heldMoveS_c ys.length g0 1 _ k11 hly (by decide) (by decide)).mono ?_
  rintro e w12 ⟨rfl, h12⟩
  have b12 := b11.trans (h12.mono z11)
  have z12 := b12.size
  have k12 := k11.below h12
  have s12 := own_keep s11 h12
  go_wp2_with fail
  refine (toMoveS_c xs v _ (hx.below b12) hl).mono ?_
  rintro e w13 ⟨u13, rfl, o13, h13⟩
  have b13 := b12.trans (h13.mono z12)
  have z13 := b13.size
  have r13 : RdM w13 u13 xs := Rd.of_own o13
  have k13 := k12.below h13
  have s13 := own_keep s12 h13
  go_wp2_with fail
  refine (imSortMoves_c xs u13 _ r13).mono ?_
  rw [show sortM xs = ys from HYS.out.symm]
  rintro e w14 ⟨h0, rfl, o14, h14⟩
  have b14 := b13.trans (h14.mono z13)
  have z14 := b14.size
  have k14 := k13.below h14
  have s14 := own_keep s13 h14
  go_wp2_with fail
  refine (eqMoveS_c ys ys h0 vs _ (Rd.of_own o14) (Rd.of_own s14)).mono ?_
  rintro e w15 ⟨he, h15⟩
  rw [show decide (ys = ys) = true by simp] at he
  subst he
  have b15 := b14.trans (h15.mono z14)
  have z15 := b15.size
  have k15 := k14.below h15
  go_wp2_with fail
  refine (heldMoveS_c ys.length g0 1 _ k15 hly (by decide) (by decide)).mono ?_
  rintro e w16 ⟨rfl, h16⟩
  go_wp2
  go_ret
  exact ⟨rfl, b15.trans (h16.mono z15)⟩


namespace fnExactSortMoves
open Go.RowKit Go.PM Go.ChangeShapes Go.WideShapes Go.ChangeAt
open Go.ChangeMaps (open_string shut_string)
set_option maxRecDepth 100000 in
theorem lifted (os : Os) (started : os.Started) (H : Type) (enc : TypeId × Value → H) :
    ReturnsInHanded {} Try.checked os 5 .any (Rows.fnExactSortMovesSpec.pre6 enc Try.prog Try.f5 Rows.fnExactSortMovesRow.domain false) (Rows.fnExactSortMovesSpec.post enc Try.prog Try.f5 false true false false) := by
  refine returnsInHanded_of_change (C := Try.checked) own started (by kernel_rfl) Try.func5
    (ChangeSpec.witness6 (enc := enc) (C := Try.checked) false ⟨#[], #[.slice none 0 0], []⟩ 8 (by kernel_rfl) (by kernel_rfl) (by kernel_rfl) (by kernel_rfl)) ?_
  intro W base args ds gs before hval0 hW hcnd _
  have hval : ∀ (j : Nat) t v, Try.f5.params[j]? = some t → args[j]? = some v → Value.okWide Try.prog W .any base t v := hval0
  have hW' := hW
  obtain ⟨p, q, hA0, hV, rfl, hfz, hnd⟩ := hW
  have hA : DataW.TrodAll enc Try.prog W 0 (fun _ => true) true Try.f5.params.toList args.toList ds p := hA0
  rw [Try.params5] at hA hval
  obtain ⟨v0, vs0, d0, ds0, p0, q0, hargs, rfl, rfl, h0, r0⟩ := trodAll_cons hA
  obtain ⟨rfl, rfl, rfl⟩ := trodAll_nil r0
  obtain rfl : args = #[v0] := by cases args; simp_all
  obtain ⟨rfl, rfl⟩ := trodVars_none hV
  have k0 := h0
  have lt0 : ∀ x ∈ p0, x.block < W.heap.size := by obtain ⟨m, hm⟩ := k0; exact DataW.trod_lt m _ _ _ hm
  obtain ⟨a0, len0, cap0, rfl⟩ := okWide_slice Try.underlying40 (hval 0 40 v0 rfl rfl)
  obtain ⟨xs0, hx0, hz0⟩ : ∃ xs : List Mv, RdM W (.slice a0 len0 cap0) xs ∧ ∀ m ∈ xs, m.1.size ≤ 9223372036854775807 ∧ m.2.size ≤ 9223372036854775807 := by obtain ⟨fuel, hf⟩ := h0; exact open_moves hf
  clear hA0 hval0
  refine (exSortMoves W xs0 _ hx0 hz0).mono fun e W' ⟨he, bel⟩ => ?_
  subst he
  exact ⟨_, rfl, _, _, _, [], _, [], hW', trodAll_mk1 (shut_bool Try.underlying4 _), (trodAll_cons_mk (Below.trod laidOut (by kernel_rfl) (of_decide_eq_true (by kernel_rfl)) k0 bel lt0) trodAll_mk0), rfl, bel.frame _, fun h => by cases h⟩

theorem over : Rows.fnExactSortMovesRow.holds Try.pinned (OpenSpec.ofChange Rows.fnExactSortMovesSpec) :=
  OpenClaim.holds_of_wide 5 Try.f5 rfl rfl rfl rfl rfl rfl rfl ⟨rfl, rfl, rfl, rfl, rfl⟩ rfl rfl rfl rfl rfl (by kernel_rfl) Try.func5 (by kernel_rfl)
    (of_decide_eq_true (by kernel_rfl)) (by unfold Func.isWrapper; first | (rw [if_pos (by decide +kernel)]; kernel_rfl) | (rw [if_neg (by decide +kernel)]; exact ⟨rfl, rfl⟩))
    (fun os started H enc _ => lifted os started H enc)

/-- The statement. -/
theorem proved : Rows.FnExactSortMovesSaid := over
end fnExactSortMoves
end Go.Proofs.Ytmifmfljiaoeaab
