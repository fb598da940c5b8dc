/- Proved: for every list of moves (each string and slice as long as the form admits), the law FnExactMovesValid answers true and its argument reads afterwards as before; no further condition. -/
import Derived.Test.YtijakmcilleplaaIm2
import Derived.Test.YtijakmcilleplaaHar
import Derived.Test.YtijakmcilleplaaSp1
import Derived.Test.YtijakmcilleplaaOpen
namespace Go.Proofs.Ytijakmcilleplaa
open Go.RowKit Go.PM

set_option maxHeartbeats 800000 in
theorem exMovesValid (w : World) (xs : List Mv) (v : Value) (hx : RdM w v xs) (hz : ∀ m ∈ xs, m.1.size ≤ 9223372036854775807 ∧ m.2.size ≤ 9223372036854775807) :
    Calls Try.prog 6 #[v] w fun e w' => e = .returned (.bool true) ∧ Below w.heap.size w w' := by
  go_enter Try.func6, Try.ntmps6
  go_wp2_with fail
  refine (szMoveS_c xs v 1048576 _ (by decide) (by decide) hx hz).mono ?_
  rintro e w1 ⟨⟨r, rfl, hr1, hr2⟩, hb1⟩
  have HR := Lib.hid hr1
  clear hr1
  by_cases hr : r < 0
  · go_wp2
    go_ret
    exact ⟨rfl, hb1⟩
  · have hlen : xs.length ≤ 1048576 := by have := HR.out (by omega); have := msize_len xs; omega
    have hs1 := hb1.size
    go_wp2_with fail
    refine (toMoveS_c xs v _ (hx.below hb1) hlen).mono ?_
    rintro e w2 ⟨v2, rfl, ho2, hb2⟩
    have hb2' : Below w.heap.size w w2 := hb1.trans (hb2.mono hs1)
    have hs2 := hb2'.size
    have hx2 : RdM w2 v2 xs := Rd.of_own ho2
    go_wp2_with fail
    refine (spMovesValid_c xs v2 _ hx2 hz hlen).mono ?_
    rintro e w3 ⟨rfl, hb3⟩
    have hb3' : Below w.heap.size w w3 := hb2'.trans (hb3.mono hs2)
    have hs3 := hb3'.size
    go_wp2_with fail
    refine (toMoveS_c xs v _ (hx.below hb3') hlen).mono ?_
    rintro e w4 ⟨v4, rfl, ho4, hb4⟩
    have hb4' : Below w.heap.size w w4 := hb3'.trans (hb4.mono hs3)
    have hs4 := hb4'.size
    have hx4 : RdM w4 v4 xs := Rd.of_own ho4
    go_wp2_with fail
    refine (imMovesValid_c xs v4 _ hx4).mono ?_
    rintro e w5 ⟨rfl, hb5⟩
    have hb5' : Below w.heap.size w w5 := hb4'.trans (hb5.mono hs4)
    have hs5 := hb5'.size
    have hx5 : RdM w5 v4 xs := hx4.below hb5
    generalize mvalid xs = t at *
    go_wp2_with fail
    refine (toMoveS_c xs v _ (hx.below hb5') hlen).mono ?_
    rintro e w6 ⟨v6, rfl, ho6, hb6⟩
    have hb6' : Below w.heap.size w w6 := hb5'.trans (hb6.mono hs5)
    have hs6 := hb6'.size
    have hx6 : RdM w6 v6 xs := Rd.of_own ho6
    go_wp2_with fail
    refine (eqMoveS_c xs xs v4 v6 _ (hx5.below hb6) hx6).mono ?_
    rintro e w7 ⟨he, hb7⟩
    rw [show decide (xs = xs) = true by simp] at he
    subst he
    go_wp2
    go_ret
    exact ⟨rfl, hb6'.trans (hb7.mono hs6)⟩

namespace fnExactMovesValid
open Go.RowKit Go.PM Go.ChangeShapes Go.WideShapes Go.ChangeAt
open Go.ChangeMaps (open_string shut_string)
set_option maxRecDepth 100000 in
theorem lifted (os : Os) (started : os.Started) (H : Type) (enc : TypeId × Value → H) :
    ReturnsInHanded {} Try.checked os 6 .any (Rows.fnExactMovesValidSpec.pre6 enc Try.prog Try.f6 Rows.fnExactMovesValidRow.domain false) (Rows.fnExactMovesValidSpec.post enc Try.prog Try.f6 false true false false) := by
  refine returnsInHanded_of_change (C := Try.checked) own started (by kernel_rfl) Try.func6
    (ChangeSpec.witness6 (enc := enc) (C := Try.checked) false ⟨#[], #[.slice none 0 0], []⟩ 8 (by kernel_rfl) (by kernel_rfl) (by kernel_rfl) (by kernel_rfl)) ?_
  intro W base args ds gs before hval0 hW hcnd _
  have hval : ∀ (j : Nat) t v, Try.f6.params[j]? = some t → args[j]? = some v → Value.okWide Try.prog W .any base t v := hval0
  have hW' := hW
  obtain ⟨p, q, hA0, hV, rfl, hfz, hnd⟩ := hW
  have hA : DataW.TrodAll enc Try.prog W 0 (fun _ => true) true Try.f6.params.toList args.toList ds p := hA0
  rw [Try.params6] at hA hval
  obtain ⟨v0, vs0, d0, ds0, p0, q0, hargs, rfl, rfl, h0, r0⟩ := trodAll_cons hA
  obtain ⟨rfl, rfl, rfl⟩ := trodAll_nil r0
  obtain rfl : args = #[v0] := by cases args; simp_all
  obtain ⟨rfl, rfl⟩ := trodVars_none hV
  have k0 := h0
  have lt0 : ∀ x ∈ p0, x.block < W.heap.size := by obtain ⟨m, hm⟩ := k0; exact DataW.trod_lt m _ _ _ hm
  obtain ⟨a0, len0, cap0, rfl⟩ := okWide_slice Try.underlying45 (hval 0 45 v0 rfl rfl)
  obtain ⟨xs0, hx0, hz0⟩ : ∃ xs : List Mv, RdM W (.slice a0 len0 cap0) xs ∧ ∀ m ∈ xs, m.1.size ≤ 9223372036854775807 ∧ m.2.size ≤ 9223372036854775807 := by obtain ⟨fuel, hf⟩ := h0; exact open_moves hf
  clear hA0 hval0
  refine (exMovesValid W xs0 _ hx0 hz0).mono fun e W' ⟨he, bel⟩ => ?_
  subst he
  exact ⟨_, rfl, _, _, _, [], _, [], hW', trodAll_mk1 (shut_bool Try.underlying4 _), (trodAll_cons_mk (Below.trod laidOut (by kernel_rfl) (of_decide_eq_true (by kernel_rfl)) k0 bel lt0) trodAll_mk0), rfl, bel.frame _, fun h => by cases h⟩

theorem over : Rows.fnExactMovesValidRow.holds Try.pinned (OpenSpec.ofChange Rows.fnExactMovesValidSpec) :=
  OpenClaim.holds_of_wide 6 Try.f6 rfl rfl rfl rfl rfl rfl rfl ⟨rfl, rfl, rfl, rfl, rfl⟩ rfl rfl rfl rfl rfl (by kernel_rfl) Try.func6 (by kernel_rfl)
    (of_decide_eq_true (by kernel_rfl)) (by unfold Func.isWrapper; first | (rw [if_pos (by decide +kernel)]; kernel_rfl) | (rw [if_neg (by decide +kernel)]; exact ⟨rfl, rfl⟩))
    (fun os started H enc _ => lifted os started H enc)

/-- The statement. -/
theorem proved : Rows.FnExactMovesValidSaid := over
end fnExactMovesValid
end Go.Proofs.Ytijakmcilleplaa
