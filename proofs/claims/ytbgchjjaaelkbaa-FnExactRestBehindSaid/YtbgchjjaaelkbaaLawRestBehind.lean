/- Proved: for every input of the form's own reach the law FnExactRestBehind answers true and its arguments read afterwards as before; no further condition. -/
import Derived.Test.YtbgchjjaaelkbaaRst
import Derived.Test.YtbgchjjaaelkbaaMark
import Derived.Test.YtbgchjjaaelkbaaHar
import Derived.Test.YtbgchjjaaelkbaaOpen
namespace Go.Proofs.Ytbgchjjaaelkbaa
open Go.RowKit Go.PM
set_option maxRecDepth 100000 in
set_option maxHeartbeats 12800000 in
theorem exRestBehind (w : World) (xs0 : List Mv) (v0 : Value) (hx0 : RdM w v0 xs0) (hz0 : ∀ m ∈ xs0, m.1.size ≤ 9223372036854775807 ∧ m.2.size ≤ 9223372036854775807) (m1 : Mv) (hm1 : m1.1.size ≤ 9223372036854775807 ∧ m1.2.size ≤ 9223372036854775807) :
    Calls Try.prog 11 #[v0, .agg #[.string m1.1, .string m1.2]] w fun e w' => e = .returned (.bool true) ∧ Below w.heap.size w w' := by
  obtain ⟨ys, hys⟩ : ∃ ys, ys = restM xs0 m1 := ⟨_, rfl⟩
  have hly : ys.length ≤ 1048576 := by rw [hys]; have := restM_len xs0 m1; omega
  have HSP := Lib.hid (fun u W (hW : RdM W u xs0) hl => spRestBehind_c xs0 u m1 W hW hz0 hl)
  have HIM := Lib.hid (fun u W (hW : RdM W u xs0) hl => imRestBehind_c xs0 u m1 W hW hl)
  rw [← hys] at HSP HIM
  clear hys
  generalize restB xs0 m1 = rb at *
  have A0 := At.new w 65 #[.string m1.1, .string m1.2]
  have B0 : Below w.heap.size w (w.alloc (.cells #[.string m1.1, .string m1.2] 65)) := (Below.refl _ _).alloc (Nat.le_refl _) _
  go_enter Try.func11, Try.ntmps11
  go_wp2_with fail
  refine (szMoveS_c xs0 v0 1048576 _ (by decide) (by decide) (hx0.below B0) hz0).mono ?_
  rintro e w1 ⟨⟨r0, rfl, hr0, hq0⟩, Hw1⟩
  have HR0 := Lib.hid hr0
  clear hr0
  have Bw1 : Below w.heap.size w w1 := B0.trans (Hw1.mono B0.size)
  have Aw1 := A0.keep Hw1
  have q1 : w1.cell? ⟨w.heap.size, 0, none⟩ = some (.string m1.1) := Aw1.cell 0
  have q2 : w1.cell? ⟨w.heap.size, 1, none⟩ = some (.string m1.2) := Aw1.cell 1
  by_cases hneg0 : r0 < 0
  · go_wp2
    go_ret
    exact ⟨rfl, Bw1⟩
  have hl0 : xs0.length ≤ 1048576 := by have := HR0.out (by omega); have := msize_len xs0; omega
  go_wp2_with fail
  refine (szMove_c m1.1 m1.2 r0 _ (by omega) (by omega) hm1.1 hm1.2).mono ?_
  rintro e w2 ⟨⟨r1, rfl, hr1, hq1⟩, Hw2⟩
  have Bw2 : Below w.heap.size w w2 := Bw1.trans (Hw2.mono Bw1.size)
  have Aw2 := Aw1.keep Hw2
  clear hr1 q1 q2
  by_cases hneg1 : r1 < 0
  · go_wp2
    go_ret
    exact ⟨rfl, Bw2⟩
  have qd1 : w2.drew.cell? ⟨w.heap.size, 0, none⟩ = some (.string m1.1) := Aw2.cell 0
  have qd2 : w2.drew.cell? ⟨w.heap.size, 1, none⟩ = some (.string m1.2) := Aw2.cell 1
  have hltw3 := Aw2.lt
  have HTw3 := Lib.hid (fun W (hW : Below w.heap.size w W) => toMoveS_c xs0 v0 W (hx0.below hW) hl0)
  have HVw3 := Lib.hid (fun W => toMove_c m1.1 m1.2 W)
  have HCw3 := Lib.hid (fun u W (hW : RdM W u xs0) => HSP.out u W hW hl0)
  have HBw3 := Lib.hid Bw2.drew
  have hsw3 := Bw2.size
  go_wp2
  go_region_with (first
    | (go_at_call 53; refine (HTw3.out _ (by first | exact HBw3.out | exact HBw3.out.trans (hbv.mono hsw3))).mono ?_; rintro e wt ⟨us, rfl, ot, hbt⟩; have qt1 := (hbt.cell (p := ⟨w.heap.size, 0, none⟩) (by first | exact hltw3 | exact Nat.lt_of_lt_of_le hltw3 hbv.size)).trans (by first | exact qd1 | exact qv1); have qt2 := (hbt.cell (p := ⟨w.heap.size, 1, none⟩) (by first | exact hltw3 | exact Nat.lt_of_lt_of_le hltw3 hbv.size)).trans (by first | exact qd2 | exact qv2))
    | (go_at_call 66; refine (HVw3.out _).mono ?_; rintro e wv ⟨rfl, hbv⟩; first | (have ov := own_keep ot hbv) | (have qv1 := (hbv.cell (p := ⟨w.heap.size, 0, none⟩) hltw3).trans qd1; have qv2 := (hbv.cell (p := ⟨w.heap.size, 1, none⟩) hltw3).trans qd2))
    | (go_at_call 39; refine (HCw3.out _ _ (by first | exact Rd.of_own ov | exact Rd.of_own ot)).mono ?_; rintro e w3 ⟨s, rfl, o_s, hbc⟩))
  all_goals
    have Bw3 : Below w.heap.size w w3 := by
      first
        | exact HBw3.out.trans (((hbt.trans (hbv.mono hbt.size)).trans (hbc.mono (Nat.le_trans hbt.size hbv.size))).mono hsw3)
        | exact HBw3.out.trans (((hbv.trans (hbt.mono hbv.size)).trans (hbc.mono (Nat.le_trans hbv.size hbt.size))).mono hsw3)
    have Aw3 : At w3 w.heap.size 65 #[.string m1.1, .string m1.2] := by
      first
        | exact ((At.keep (w := w2.drew) Aw2 hbt).keep hbv).keep hbc
        | exact ((At.keep (w := w2.drew) Aw2 hbv).keep hbt).keep hbc
    have os3 : w3.ownsRow w.heap.size 33 2 s ys.length (mcells ys) := by
      refine own_more o_s ?_
      first
        | exact Nat.le_trans hsw3 (Nat.le_trans hbt.size hbv.size)
        | exact Nat.le_trans hsw3 (Nat.le_trans hbv.size hbt.size)
    try clear qt1 qt2
    try clear qv1 qv2
    try clear ov
    clear ot hbt hbv hbc qd1 qd2 o_s HTw3 HVw3 HCw3 HBw3 hsw3 hltw3
    go_wp2_with fail
    refine (toMoveS_c xs0 v0 _ (hx0.below Bw3) hl0).mono ?_
    rintro e w4 ⟨x0, rfl, o_x0, Hw4⟩
    have ne_s_x0 := own_ne os3 o_x0 (Nat.le_refl _)
    have Bw4 : Below w.heap.size w w4 := Bw3.trans (Hw4.mono Bw3.size)
    have Aw4 := Aw3.keep Hw4
    have s_w4 := own_keep os3 Hw4
    have q1 : w4.cell? ⟨w.heap.size, 0, none⟩ = some (.string m1.1) := Aw4.cell 0
    have q2 : w4.cell? ⟨w.heap.size, 1, none⟩ = some (.string m1.2) := Aw4.cell 1
    go_wp2_with fail
    refine (toMove_c m1.1 m1.2 _).mono ?_
    rintro e w5 ⟨rfl, Hw5⟩
    have Bw5 : Below w.heap.size w w5 := Bw4.trans (Hw5.mono Bw4.size)
    have Aw5 := Aw4.keep Hw5
    have s_w5 := own_keep s_w4 Hw5
    have x0_w5 := own_keep o_x0 Hw5
    go_wp2_with fail
    refine (HIM.out x0 _ (Rd.of_own x0_w5) hl0).mono ?_
    rintro e w6 ⟨g, rfl, o_g, Hw6⟩
    have ne_s_g := own_ne s_w5 o_g (Nat.le_refl _)
    have ne_x0_g := own_ne x0_w5 o_g (Nat.le_refl _)
    have Bw6 : Below w.heap.size w w6 := Bw5.trans (Hw6.mono Bw5.size)
    have Aw6 := Aw5.keep Hw6
    have s_w6 := own_keep s_w5 Hw6
    have x0_w6 := own_keep x0_w5 Hw6
    clear q1 q2
    go_wp2_with fail
    refine (eqMoveS_c ys ys g s _ (Rd.of_own o_g) (Rd.of_own s_w6)).mono ?_
    rintro e w7 ⟨he, Hw7⟩
    rw [show decide (ys = ys) = true by simp] at he
    subst he
    have Bw7 : Below w.heap.size w w7 := Bw6.trans (Hw7.mono Bw6.size)
    have Aw7 := Aw6.keep Hw7
    have s_w7 := own_keep s_w6 Hw7
    have x0_w7 := own_keep x0_w6 Hw7
    have g_w7 := own_keep o_g Hw7
    go_wp2_with fail
    refine (toMoveS_c xs0 v0 _ (hx0.below Bw7) hl0).mono ?_
    rintro e w8 ⟨t0, rfl, o_t0, Hw8⟩
    have ne_s_t0 := own_ne s_w7 o_t0 (Nat.le_refl _)
    have ne_x0_t0 := own_ne x0_w7 o_t0 (Nat.le_refl _)
    have ne_g_t0 := own_ne g_w7 o_t0 (Nat.le_refl _)
    have Bw8 : Below w.heap.size w w8 := Bw7.trans (Hw8.mono Bw7.size)
    have Aw8 := Aw7.keep Hw8
    have s_w8 := own_keep s_w7 Hw8
    have x0_w8 := own_keep x0_w7 Hw8
    have g_w8 := own_keep g_w7 Hw8
    go_wp2_with fail
    refine (eqMoveS_c xs0 xs0 x0 t0 _ (Rd.of_own x0_w8) (Rd.of_own o_t0)).mono ?_
    rintro e w9 ⟨he, Hw9⟩
    rw [show decide (xs0 = xs0) = true by simp] at he
    subst he
    have Bw9 : Below w.heap.size w w9 := Bw8.trans (Hw9.mono Bw8.size)
    have Aw9 := Aw8.keep Hw9
    have s_w9 := own_keep s_w8 Hw9
    have x0_w9 := own_keep x0_w8 Hw9
    have g_w9 := own_keep g_w8 Hw9
    have t0_w9 := own_keep o_t0 Hw9
    go_wp2_with fail
    refine (markMoveS_c xs0 x0 _ 1 _ x0_w9 hl0 (by omega) (by omega)).mono ?_
    rintro e w10 ⟨rfl, _, Hw10⟩
    have Bw10 := Bw9.trans (below_grown Hw10 (B := w.heap.size) Bw9.size (fun g hg => by have := own_block_ge o_x0 g hg; have := Bw3.size; omega))
    have Aw10 := Aw9.grown Hw10 (fun e => by have := own_block_ge o_x0 _ e.symm; have := Aw3.lt; omega)
    have s_w10 := own_grown s_w9 Hw10 ne_s_x0
    have g_w10 := own_grown g_w9 Hw10 (ne_turn ne_x0_g)
    go_wp2_with fail
    refine (eqMoveS_c ys ys g s _ (Rd.of_own g_w10) (Rd.of_own s_w10)).mono ?_
    rintro e w11 ⟨he, Hw11⟩
    rw [show decide (ys = ys) = true by simp] at he
    subst he
    have Bw11 : Below w.heap.size w w11 := Bw10.trans (Hw11.mono Bw10.size)
    have Aw11 := Aw10.keep Hw11
    have s_w11 := own_keep s_w10 Hw11
    have g_w11 := own_keep g_w10 Hw11
    go_wp2_with fail
    refine (markMoveS_c ys g _ 1 _ g_w11 hly (by omega) (by omega)).mono ?_
    rintro e w12 ⟨rfl, om_g, Hw12⟩
    have Bw12 := Bw11.trans (below_grown Hw12 (B := w.heap.size) Bw11.size (fun q hq => by have := own_block_ge o_g q hq; have := Bw5.size; omega))
    have Aw12 := Aw11.grown Hw12 (fun e => by have := own_block_ge o_g _ e.symm; have := Aw5.lt; omega)
    have s_w12 := own_grown s_w11 Hw12 ne_s_g
    have k_w12 : RdM w12 g (marks ys.length 1) := by
      have := Rd.of_own om_g
      unfold RdM; rw [marks_length]; exact this
    go_wp2_with fail
    refine (heldMoveS_c ys.length g 1 _ k_w12 hly (by decide) (by decide)).mono ?_
    rintro e w13 ⟨rfl, Hw13⟩
    have Bw13 : Below w.heap.size w w13 := Bw12.trans (Hw13.mono Bw12.size)
    have Aw13 := Aw12.keep Hw13
    have s_w13 := own_keep s_w12 Hw13
    have k_w13 := k_w12.below Hw13
    have pd1 : w13.drew.cell? ⟨w.heap.size, 0, none⟩ = some (.string m1.1) := Aw13.cell 0
    have pd2 : w13.drew.cell? ⟨w.heap.size, 1, none⟩ = some (.string m1.2) := Aw13.cell 1
    have hlt2 := Aw13.lt
    have HT2 := Lib.hid (fun W (hW : Below w.heap.size w W) => toMoveS_c xs0 v0 W (hx0.below hW) hl0)
    have HV2 := Lib.hid (fun W => toMove_c m1.1 m1.2 W)
    have HC2 := Lib.hid (fun u W (hW : RdM W u xs0) => HIM.out u W hW hl0)
    have HB2 := Lib.hid Bw13.drew
    have hs2 := Bw13.size
    go_wp2
    go_region_with (first
      | (go_at_call 53; refine (HT2.out _ (by first | exact HB2.out | exact HB2.out.trans (hbv.mono hs2))).mono ?_; rintro e wt ⟨ud, rfl, ot, hbt⟩; have qt1 := (hbt.cell (p := ⟨w.heap.size, 0, none⟩) (by first | exact hlt2 | exact Nat.lt_of_lt_of_le hlt2 hbv.size)).trans (by first | exact pd1 | exact qv1); have qt2 := (hbt.cell (p := ⟨w.heap.size, 1, none⟩) (by first | exact hlt2 | exact Nat.lt_of_lt_of_le hlt2 hbv.size)).trans (by first | exact pd2 | exact qv2))
      | (go_at_call 66; refine (HV2.out _).mono ?_; rintro e wv ⟨rfl, hbv⟩; first | (have ov := own_keep ot hbv) | (have qv1 := (hbv.cell (p := ⟨w.heap.size, 0, none⟩) hlt2).trans pd1; have qv2 := (hbv.cell (p := ⟨w.heap.size, 1, none⟩) hlt2).trans pd2))
      | (go_at_call 38; refine (HC2.out _ _ (by first | exact Rd.of_own ov | exact Rd.of_own ot)).mono ?_; rintro e w14 ⟨h, rfl, o_h, hbc⟩))
    all_goals
      have Bw14 : Below w.heap.size w w14 := by
        first
          | exact HB2.out.trans (((hbt.trans (hbv.mono hbt.size)).trans (hbc.mono (Nat.le_trans hbt.size hbv.size))).mono hs2)
          | exact HB2.out.trans (((hbv.trans (hbt.mono hbv.size)).trans (hbc.mono (Nat.le_trans hbv.size hbt.size))).mono hs2)
      have s_w14 : w14.ownsRow w.heap.size 33 2 s ys.length (mcells ys) := by
        first
          | exact own_keep (own_keep (own_keep (w := w13.drew) s_w13 hbt) hbv) hbc
          | exact own_keep (own_keep (own_keep (w := w13.drew) s_w13 hbv) hbt) hbc
      have k_w14 : RdM w14 g (marks ys.length 1) := by
        first
          | exact ((Rd.below (w := w13.drew) k_w13 hbt).below hbv).below hbc
          | exact ((Rd.below (w := w13.drew) k_w13 hbv).below hbt).below hbc
      try clear qt1 qt2
      try clear qv1 qv2
      try clear ov
      clear ot hbt hbv hbc pd1 pd2 HT2 HV2 HC2 HB2 hs2 hlt2
      go_wp2_with fail
      refine (eqMoveS_c ys ys h s _ (Rd.of_own o_h) (Rd.of_own s_w14)).mono ?_
      rintro e w15 ⟨he, Hw15⟩
      rw [show decide (ys = ys) = true by simp] at he
      subst he
      have Bw15 : Below w.heap.size w w15 := Bw14.trans (Hw15.mono Bw14.size)
      have k_w15 := k_w14.below Hw15
      go_wp2_with fail
      refine (heldMoveS_c ys.length g 1 _ k_w15 hly (by decide) (by decide)).mono ?_
      rintro e w16 ⟨rfl, Hw16⟩
      have Bw16 : Below w.heap.size w w16 := Bw15.trans (Hw16.mono Bw15.size)
      go_wp2
      go_ret
      exact ⟨rfl, Bw16⟩

set_option maxRecDepth 100000 in
open Go.ChangeShapes Go.WideShapes Go.ChangeAt in
theorem open_move {H : Type} {enc : TypeId × Value → H} {W : World} {base fuel : Nat} {spare : Nat → Bool} {held : Bool} {cs : Array Value} {x : DataW H × List MemPlace}
    (h : DataW.trod enc Try.prog W base spare held fuel 65 (Value.agg cs).cells.toList = some x) :
    ∃ m : Mv, cs = #[.string m.1, .string m.2] ∧ m.1.size ≤ 9223372036854775807 ∧ m.2.size ≤ 9223372036854775807 := by
  have hC : Try.prog.cellsOf 65 = 2 := by kernel_rfl
  have hM : maxLen = 9223372036854775807 := rfl
  obtain ⟨y0, y1, k', _, hlen, h0, h1⟩ := trod_struct2 Try.underlying65 h
  rw [hC] at hlen
  obtain ⟨l⟩ := cs
  have hlen' : l.length = 2 := hlen
  match l, hlen' with
  | [c0, c1], _ =>
    have e0 : Try.prog.cellsOf 9 = 1 := by kernel_rfl
    simp only [e0] at h0 h1
    simp [Value.cells] at h0 h1
    obtain ⟨s, hs, _, hs1⟩ := DataW.trod_string Try.underlying9 h0
    obtain ⟨t, hta, _, ht1⟩ := DataW.trod_string Try.underlying9 h1
    simp at hs hta
    subst hs hta
    exact ⟨(s, t), rfl, hM ▸ hs1, hM ▸ ht1⟩

namespace fnExactRestBehind
open Go.RowKit Go.PM Go.ChangeShapes Go.WideShapes Go.ChangeAt
open Go.ChangeMaps (open_string shut_string)
set_option maxRecDepth 100000 in
theorem lifted (os : Os) (started : os.Started) (H : Type) (enc : TypeId × Value → H) :
    ReturnsInHanded {} Try.checked os 11 .any (Rows.fnExactRestBehindSpec.pre6 enc Try.prog Try.f11 Rows.fnExactRestBehindRow.domain false) (Rows.fnExactRestBehindSpec.post enc Try.prog Try.f11 false true false false) := by
  refine returnsInHanded_of_change (C := Try.checked) own started (by kernel_rfl) Try.func11
    (ChangeSpec.witness6 (enc := enc) (C := Try.checked) false ⟨#[], #[.slice none 0 0, .agg #[.string ⟨#[]⟩, .string ⟨#[]⟩]], []⟩ 8 (by kernel_rfl) (by kernel_rfl) (by kernel_rfl) (by kernel_rfl)) ?_
  intro W base args ds gs before hval0 hW hcnd _
  have hval : ∀ (j : Nat) t v, Try.f11.params[j]? = some t → args[j]? = some v → Value.okWide Try.prog W .any base t v := hval0
  have hW' := hW
  obtain ⟨p, q, hA0, hV, rfl, hfz, hnd⟩ := hW
  have hA : DataW.TrodAll enc Try.prog W 0 (fun _ => true) true Try.f11.params.toList args.toList ds p := hA0
  rw [Try.params11] at hA hval
  obtain ⟨v0, vs0, d0, ds0, p0, q0, hargs, rfl, rfl, h0, r0⟩ := trodAll_cons hA
  obtain ⟨v1, vs1, d1, ds1, p1, q1, rfl, rfl, rfl, h1, r1⟩ := trodAll_cons r0
  obtain ⟨rfl, rfl, rfl⟩ := trodAll_nil r1
  obtain rfl : args = #[v0, v1] := by cases args; simp_all
  obtain ⟨rfl, rfl⟩ := trodVars_none hV
  have k0 := h0
  have lt0 : ∀ x ∈ p0, x.block < W.heap.size := by obtain ⟨m, hm⟩ := k0; exact DataW.trod_lt m _ _ _ hm
  have k1 := h1
  have lt1 : ∀ x ∈ p1, x.block < W.heap.size := by obtain ⟨m, hm⟩ := k1; exact DataW.trod_lt m _ _ _ hm
  obtain ⟨a0, len0, cap0, rfl⟩ := okWide_slice Try.underlying55 (hval 0 55 v0 rfl rfl)
  obtain ⟨xs0, hx0, hz0⟩ : ∃ xs : List Mv, RdM W (.slice a0 len0 cap0) xs ∧ ∀ m ∈ xs, m.1.size ≤ 9223372036854775807 ∧ m.2.size ≤ 9223372036854775807 := by obtain ⟨fuel, hf⟩ := h0; exact open_moves hf
  obtain ⟨cs1, rfl, _⟩ := okWide_struct Try.underlying65 (hval 1 65 v1 rfl rfl)
  obtain ⟨m1, rfl, hm1⟩ : ∃ m : Mv, cs1 = #[.string m.1, .string m.2] ∧ m.1.size ≤ 9223372036854775807 ∧ m.2.size ≤ 9223372036854775807 := by obtain ⟨fuel, hf⟩ := h1; exact open_move hf
  clear hA0 hval0
  refine (exRestBehind W xs0 _ hx0 hz0 m1 hm1).mono fun e W' ⟨he, bel⟩ => ?_
  subst he
  exact ⟨_, rfl, _, _, _, [], _, [], hW', trodAll_mk1 (shut_bool Try.underlying4 _), (trodAll_cons_mk (Below.trod laidOut (by kernel_rfl) (of_decide_eq_true (by kernel_rfl)) k0 bel lt0) (trodAll_cons_mk (Below.trod laidOut (by kernel_rfl) (of_decide_eq_true (by kernel_rfl)) k1 bel lt1) trodAll_mk0)), rfl, bel.frame _, fun h => by cases h⟩

theorem over : Rows.fnExactRestBehindRow.holds Try.pinned (OpenSpec.ofChange Rows.fnExactRestBehindSpec) :=
  OpenClaim.holds_of_wide 11 Try.f11 rfl rfl rfl rfl rfl rfl rfl ⟨rfl, rfl, rfl, rfl, rfl⟩ rfl rfl rfl rfl rfl (by kernel_rfl) Try.func11 (by kernel_rfl)
    (of_decide_eq_true (by kernel_rfl)) (by unfold Func.isWrapper; first | (rw [if_pos (by decide +kernel)]; kernel_rfl) | (rw [if_neg (by decide +kernel)]; exact ⟨rfl, rfl⟩))
    (fun os started H enc _ => lifted os started H enc)

/-- The statement. -/
theorem proved : Rows.FnExactRestBehindSaid := over
end fnExactRestBehind
end Go.Proofs.Ytbgchjjaaelkbaa
