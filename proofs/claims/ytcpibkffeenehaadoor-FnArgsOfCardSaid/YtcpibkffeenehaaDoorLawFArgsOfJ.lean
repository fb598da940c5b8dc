/- Proved: for every input of the form's own reach the law FnArgsOf answers true and its argument reads afterwards as before; no further condition. -/
import Derived.Test.YtcpibkffeenehaaDoorCkC
import Derived.Test.YtcpibkffeenehaaDoorCkE
import Derived.Test.YtcpibkffeenehaaDoorCkG
import Derived.Test.YtcpibkffeenehaaDoorCard10
import Derived.Test.YtcpibkffeenehaaDoorCkD
import Derived.Test.YtcpibkffeenehaaDoorHar
import Derived.Test.YtcpibkffeenehaaDoorOpen
namespace Go.Proofs.YtcpibkffeenehaaDoor
open Go.RowKit Go.PM Go.PD Go.PF
attribute [local go_sem] Oper.semAt_some
set_option maxRecDepth 100000 in
set_option maxHeartbeats 3200000 in
theorem exArgsOf (w : World) (v0 : Value) (n0 : Nat) (hv : RdB w w.heap.size v0 n0) (hT : U8w w) :
    Calls Tryd.prog 5 #[v0] w fun e w' => e = .returned (.bool true) ∧ Below w.heap.size w w' := by
  have hv0 := hv
  obtain ⟨A, cap, rfl, hc, hn, _⟩ := hv
  by_cases hbig : 1048576 < n0
  · have t : decide ((n0 : Int) > 1048576) = true := by simp; omega
    go_enter Tryd.func5, Tryd.ntmps5
    go_wp2
    go_ret
    exact ⟨rfl, Below.refl _ _⟩
  have t : decide ((n0 : Int) > 1048576) = false := by simp; omega
  have HD := Lib.hid (drawArgsOf_c w _ n0 hv0)
  clear hv0
  go_enter Tryd.func5, Tryd.ntmps5
  go_wp2_with fail
  refine HD.out.mono ?_
  rintro e w1 ⟨ps, u, xs, rfl, ho, hsh, b1⟩
  have hs1 := b1.size
  have hT1 := hT.below b1
  have hx1 : RdM w1 u xs := Rd.of_own ho
  have hps : ps.size ≤ 1048576 := by have := hsh.out.1; omega
  have hzs : ∀ m ∈ xs, m.1.size ≤ 9223372036854775807 ∧ m.2.size ≤ 9223372036854775807 := fun m hm => by have := hsh.out.2.2 m hm; omega
  have hxl : xs.length ≤ 1048576 := by have := hsh.out.2.1; omega
  have HI := Lib.hid (imArgsOf_c ps hps xs u w1 hx1)
  have HS := Lib.hid (fun W (hb : Below w1.heap.size w1 W) => spArgsOf_c ps hps xs u W (hx1.below hb) hzs hxl)
  have HOB : Hid (agB ps.data.toList xs = okS (agOk ps.data.toList xs) (arB (srcM xs) ps.data.toList)) := rfl
  rw [HOB.out] at HI HS
  clear HD ho hsh HOB
  rcases Bool.eq_false_or_eq_true (agOk ps.data.toList xs) with h1 | h1
  · obtain ⟨c1, c2, c3⟩ := ag_call h1
    rw [← arB_list] at c1 c2 c3
    have haz : (arB (srcM xs) ps.data.toList).size ≤ 1048576 := by
      have h2 := cl_len c1
      have h3 := (par_len (cl_par c1)).2
      rw [size_data] at h2
      omega
    have HM := Lib.hid (fun W (hb : Below w1.heap.size w1 W) => imMovesFor_c ps (arB (srcM xs) ps.data.toList) hps haz W (hT1.below hb))
    have HCC := Lib.hid (fun W (hb : Below w1.heap.size w1 W) => imCallCost_c ps (arB (srcM xs) ps.data.toList) hps haz W (hT1.below hb))
    rw [show coI ps.data.toList (arB (srcM xs) ps.data.toList).data.toList = cioI (clM ps.data.toList (arB (srcM xs) ps.data.toList).data.toList) from if_pos c1, c3] at HCC
    rw [clL_yes c1, c1] at HM
    have HSM := Lib.hid (fun vv W (hb : Below w1.heap.size w1 W) hv => imSameMoves_c (clM ps.data.toList (arB (srcM xs) ps.data.toList).data.toList) xs vv u W hv (hx1.below hb))
    rw [c2] at HSM
    have HCO := Lib.hid (fun W (hb : Below w1.heap.size w1 W) => imCountInOrder_c xs u W (hx1.below hb) hxl)
    rw [h1, show ∀ s, okS true s = s from fun _ => rfl] at HI HS
    clear h1 c1 c2 c3 haz hzs hxl
    generalize cioI xs = ci at *
    generalize clM ps.data.toList (arB (srcM xs) ps.data.toList).data.toList = ms at *
    generalize arB (srcM xs) ps.data.toList = ar at *
    have q1 : (ar.toList == ar.toList) = true := by simp
    go_wp2_with fail
    refine HI.out.mono ?_
    rintro e w2 ⟨rfl, b2⟩
    have B2 : Below w1.heap.size w1 w2 := b2
    go_wp2_with fail
    refine (HS.out _ B2).mono ?_
    rintro e w3 ⟨rfl, b3⟩
    have B3 : Below w1.heap.size w1 w3 := B2.trans (b3.mono B2.size)
    go_wp2_with fail
    refine (HM.out _ B3).mono ?_
    rintro e w4 ⟨v4, rfl, o4, b4⟩
    have B4 : Below w1.heap.size w1 w4 := B3.trans (b4.mono B3.size)
    have R4 : RdM w4 v4 ms := Rd.of_own o4
    go_wp2_with fail
    refine (HSM.out _ _ B4 R4).mono ?_
    rintro e w5 ⟨rfl, b5⟩
    have B5 : Below w1.heap.size w1 w5 := B4.trans (b5.mono B4.size)
    go_wp2_with fail
    refine (HCC.out _ B5).mono ?_
    rintro e w6 ⟨rfl, b6⟩
    have B6 : Below w1.heap.size w1 w6 := B5.trans (b6.mono B5.size)
    go_wp2_with fail
    refine (HCO.out _ B6).mono ?_
    rintro e w7 ⟨rfl, b7⟩
    have B7 : Below w1.heap.size w1 w7 := B6.trans (b7.mono B6.size)
    have q2 : (ci == ci) = true := by simp
    go_wp2
    go_ret
    exact ⟨rfl, b1.trans (B7.mono hs1)⟩
  · rw [h1, show ∀ s, okS false s = ⟨#[]⟩ from fun _ => rfl] at HI HS
    clear h1 hzs hxl
    go_wp2_with fail
    refine HI.out.mono ?_
    rintro e w2 ⟨rfl, b2⟩
    have B2 : Below w1.heap.size w1 w2 := b2
    go_wp2_with fail
    refine (HS.out _ B2).mono ?_
    rintro e w3 ⟨rfl, b3⟩
    have B3 : Below w1.heap.size w1 w3 := B2.trans (b3.mono B2.size)
    go_wp2
    go_ret
    exact ⟨rfl, b1.trans (B3.mono hs1)⟩

namespace fnArgsOf
open Go.RowKit Go.PM Go.ChangeShapes Go.WideShapes Go.ChangeAt
open Go.ChangeMaps (open_string shut_string)
set_option maxRecDepth 100000 in
theorem lifted (os : Os) (started : os.Started) (H : Type) (enc : TypeId × Value → H) :
    ReturnsInHanded {} Tryd.checked os 5 .any (fun w args => (Rows.fnArgsOfSpec.pre enc Tryd.prog Tryd.f5 [] false w args ∧ laidMetH Tryd.prog laidL w) ∧ sizedMet enc Tryd.prog Tryd.f5 (OpenSpec.ofChange Rows.fnArgsOfSpec) false w args)
      (Rows.fnArgsOfSpec.post enc Tryd.prog Tryd.f5 false true false false) := by
  refine returnsInHanded_of_change_and (C := Tryd.checked) (X := fun w _ => laidMetH Tryd.prog laidL w) (fun _ _ _ hh h => h.of_heap hh) own started (by kernel_rfl) Tryd.func5
    (ChangeSpec.witness_at (enc := enc) (C := Tryd.checked) (os := os) (X := fun w _ => laidMetH Tryd.prog laidL w) false (laidWorld os) #[.slice none 0 0] 8 rfl (by kernel_rfl) (by kernel_rfl) (by kernel_rfl) (by kernel_rfl) (by kernel_rfl) (laidWorld_met os _)) ?_
  intro W base args ds gs before hval0 hW _ _ hL _
  have hval : ∀ (j : Nat) t v, Tryd.f5.params[j]? = some t → args[j]? = some v → Value.okWide Tryd.prog W .any base t v := hval0
  have hW' := hW
  obtain ⟨p, q, hA0, hV, rfl, hfz, hnd⟩ := hW
  have hA : DataW.TrodAll enc Tryd.prog W 0 (fun _ => true) true Tryd.f5.params.toList args.toList ds p := hA0
  rw [Tryd.params5] at hA hval
  obtain ⟨v0, vs0, d0, ds0, p0, q0, hargs, rfl, rfl, h0, r0⟩ := trodAll_cons hA
  obtain ⟨rfl, rfl, rfl⟩ := trodAll_nil r0
  obtain rfl : args = #[v0] := by cases args; simp_all
  obtain ⟨rfl, rfl⟩ := trodVars_none hV
  have hG := u8_of_laid hL
  have k0 := h0
  have lt0 : ∀ x ∈ p0, x.block < W.heap.size := by obtain ⟨m, hm⟩ := k0; exact DataW.trod_lt m _ _ _ hm
  obtain ⟨a0, len0, cap0, rfl⟩ := okWide_slice Tryd.underlying22 (hval 0 22 v0 rfl rfl)
  have hx0 : RdB W W.heap.size (.slice a0 len0 cap0) len0 := by obtain ⟨fuel, hf⟩ := h0; exact open_bytes hf
  clear hA0 hval0
  refine (exArgsOf W _ len0 hx0 hG).mono fun e W' ⟨he, bel⟩ => ?_
  subst he
  exact ⟨_, rfl, _, _, _, [], _, [], hW', trodAll_mk1 (shut_bool Tryd.underlying4 _), (trodAll_cons_mk (Below.trod laidOut (by kernel_rfl) (of_decide_eq_true (by kernel_rfl)) k0 bel lt0) trodAll_mk0), rfl, bel.frame _, fun h => by cases h⟩

theorem over : Rows.fnArgsOfRow.holds Tryd.pinned (OpenSpec.ofChange Rows.fnArgsOfSpec) :=
  OpenClaim.holds_of_wide 5 Tryd.f5 rfl rfl rfl rfl rfl rfl rfl ⟨rfl, rfl, rfl, rfl, rfl⟩ rfl rfl rfl rfl rfl (by kernel_rfl) Tryd.func5 (by kernel_rfl)
    (of_decide_eq_true (by kernel_rfl)) (by unfold Func.isWrapper; first | (rw [if_pos (by decide +kernel)]; kernel_rfl) | (rw [if_neg (by decide +kernel)]; exact ⟨rfl, rfl⟩))
    (fun os started H enc _ => lifted os started H enc)

/-- The statement. -/
theorem proved : Rows.FnArgsOfCardSaid :=
  Claim7.holds_tied_plain_at .later [] [.data, .pinned] true Rows.fnArgsOfCard.stood.harness false
    over (fun _ h => by cases h) (by kernel_rfl) (fun _ h => by cases h) fnArgsOf_row_tie rfl ⟨rfl, rfl⟩ (by kernel_rfl) rfl
    (fun f fn hf hfn => by
      obtain rfl : f = 5 := Option.some.inj ((show Tryd.prog.funcNamed "loop.example/parallelmoves/laws.FnArgsOf" = some 5 by kernel_rfl).symm.trans hf) |>.symm
      obtain rfl : fn = Tryd.f5 := (Option.some.inj (Tryd.func5.symm.trans hfn)).symm
      exact ⟨by kernel_rfl, fun j t ht => by
        rw [Tryd.params5] at ht
        rcases j with _ | j
        · obtain rfl : t = 22 := by simpa using ht.symm
          exact (show Tryd.prog.wantsStandIn 22 = false by kernel_rfl)
        · simp at ht⟩)
    (by kernel_rfl)
end fnArgsOf
end Go.Proofs.YtcpibkffeenehaaDoor
