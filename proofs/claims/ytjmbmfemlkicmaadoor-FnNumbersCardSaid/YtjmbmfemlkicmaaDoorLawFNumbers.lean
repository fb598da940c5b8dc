/- Proved: for every input of the form's own reach the law FnNumbers answers true and its arguments read afterwards as before; no further condition. -/
import Derived.Test.YtjmbmfemlkicmaaDoorNuI
import Derived.Test.YtjmbmfemlkicmaaDoorDrawN
import Derived.Test.YtjmbmfemlkicmaaDoorBytes
import Derived.Test.YtjmbmfemlkicmaaDoorCardN
import Derived.Test.YtjmbmfemlkicmaaDoorOpen
namespace Go.PG
theorem num_same (xs ys : List Int) : (decide (numB xs = numB ys) == decide (xs = ys)) = true := by
  by_cases h : xs = ys
  · subst h; simp
  · have : numB xs ≠ numB ys := fun e => h (numB_inj e)
    simp [h, this]
theorem take_same {xs ys : List Int} {k : Nat} (h1 : k < xs.length) (h2 : k < ys.length) : decide (xs.length = ys.length ∧ xs.take (k + 1) = ys.take (k + 1)) = (decide (xs.length = ys.length ∧ xs.take k = ys.take k) && decide (xs[k] = ys[k])) := by
  have e : xs.take (k + 1) = ys.take (k + 1) ↔ xs.take k = ys.take k ∧ xs[k] = ys[k] := by
    rw [List.take_succ_eq_append_getElem h1, List.take_succ_eq_append_getElem h2]
    constructor
    · intro h
      have h3 := List.append_inj' h rfl
      exact ⟨h3.1, by simpa using h3.2⟩
    · rintro ⟨h, h'⟩
      rw [h, h']
  rw [← Bool.decide_and]
  exact decide_eq_decide.2 ⟨fun h => ⟨⟨h.1, (e.1 h.2).1⟩, (e.1 h.2).2⟩, fun h => ⟨h.1.1, e.2 ⟨h.1.2, h.2⟩⟩⟩
theorem take_end {xs ys : List Int} {k : Nat} (h : ¬ k < min xs.length ys.length) (hk : k ≤ min xs.length ys.length) : decide (xs.length = ys.length ∧ xs.take k = ys.take k) = decide (xs = ys) := by
  by_cases e : xs.length = ys.length
  · have h1 : k = xs.length := by omega
    have h2 : k = ys.length := by omega
    rw [List.take_of_length_le (by omega), List.take_of_length_le (by omega)]
    simp [e]
  · have : ¬ xs = ys := fun h => e (by rw [h])
    simp [e, this]
end Go.PG
namespace Go.Proofs.YtjmbmfemlkicmaaDoor
open Go.RowKit Go.PM Go.PG
set_option maxRecDepth 100000 in
set_option maxHeartbeats 1600000 in
theorem exNumbers (w : World) (v0 : Value) (n0 : Nat) (hv0 : RdB w w.heap.size v0 n0) (v1 : Value) (n1 : Nat) (hv1 : RdB w w.heap.size v1 n1) (hG : Tp w) :
    Calls Tryd.prog 3 #[v0, v1] w fun e w' => e = .returned (.bool true) ∧ Below w.heap.size w w' := by
  have hD0 := drawFormatNumbers_c w v0 n0 hv0
  have hK : ∀ W, Below w.heap.size w W → RdB W W.heap.size v1 n1 := fun W hb => by
    obtain ⟨A, cap, e, h1, h2, h3⟩ := hv1.keep (grown_below hb none) (fun r e => by cases e)
    exact ⟨A, cap, e, h1, h2, fun k hk => by obtain ⟨b, off, c, e1, hB, hl, hc, hr⟩ := h3 k hk; exact ⟨b, off, c, e1, hl, hl, hc, hr⟩⟩
  have HK := Lib.hid hK
  clear hK
  have HD1 : Hid (∀ W, Below w.heap.size w W → Calls Tryd.prog 5 #[v1] W fun e w' => ∃ u xs, e = .returned u ∧ w'.ownsRow W.heap.size 3 1 u xs.length (icells xs) ∧ xs.length ≤ 5 ∧ (∀ m ∈ xs, i64ok m) ∧ Below W.heap.size W w') := fun W hb => drawFormatNumbers_c W v1 n1 (HK.out W hb)
  have HD0 := Lib.hid hD0
  clear hD0 HK
  obtain ⟨A0, c0, rfl, _, _, _⟩ := hv0
  obtain ⟨A1, c1, rfl, _, _, _⟩ := hv1
  by_cases hb0 : 1048576 < n0
  · have t0 : decide ((n0 : Int) > 1048576) = true := decide_eq_true (by omega)
    go_enter Tryd.func3, Tryd.ntmps3
    go_wp2
    go_ret
    exact ⟨rfl, Below.refl _ _⟩
  by_cases hb1 : 1048576 < n1
  · have t0 : decide ((n0 : Int) > 1048576) = false := decide_eq_false (by omega)
    have t1 : decide ((n1 : Int) > 1048576) = true := decide_eq_true (by omega)
    go_enter Tryd.func3, Tryd.ntmps3
    go_wp2
    go_ret
    exact ⟨rfl, Below.refl _ _⟩
  have t0 : decide ((n0 : Int) > 1048576) = false := decide_eq_false (by omega)
  have t1 : decide ((n1 : Int) > 1048576) = false := decide_eq_false (by omega)
  go_enter Tryd.func3, Tryd.ntmps3
  go_wp2_with fail
  refine HD0.out.mono ?_
  rintro e w1 ⟨u, xs, rfl, ho1, hl1, hok1, B1⟩
  have Z1 := B1.size
  have HO1 := Lib.hid hok1
  have R1 : RdI w1 u xs := Rd.of_own ho1
  clear hok1 ho1 HD0
  go_wp2_with fail
  refine (HD1.out w1 B1).mono ?_
  rintro e w2 ⟨u', ys, rfl, ho2, hl2, hok2, B2⟩
  have HO2 := Lib.hid hok2
  have R2 : RdI w2 u' ys := Rd.of_own ho2
  have B2' := B1.trans (B2.mono Z1)
  have Z2 := B2'.size
  have R1' := R1.below B2
  clear hok2 ho2 HD1 R1 B1 B2 Z1
  have hI := fun (v : Value) (zs : List Int) (W : World) (hb : Below w.heap.size w W) (h : RdI W v zs) (ho : ∀ m ∈ zs, i64ok m) (hl : zs.length ≤ 5) => (imFormatNumbers_c zs v W (hG.below hb) h ho (by omega)).mono (fun e w' (h2 : e = .returned (.string (numB zs)) ∧ Below W.heap.size W w') => h2)
  have HI := Lib.hid hI
  clear hI
  go_wp2_with fail
  refine (HI.out u xs w2 B2' R1' HO1.out hl1).mono ?_
  rintro e w3 ⟨rfl, B3⟩
  have B3' := B2'.trans (B3.mono Z2)
  have Z3 := B3'.size
  have Q1 := R1'.below B3
  have Q2 := R2.below B3
  clear R1' R2 B3 B2' Z2
  go_wp2_with fail
  refine (spFormatNumbers_c xs u w3 Q1 HO1.out (by omega)).mono ?_
  rintro e w4 ⟨rfl, B4⟩
  have B4' := B3'.trans (B4.mono Z3)
  have Z4 := B4'.size
  have P1 := Q1.below B4
  have P2 := Q2.below B4
  clear Q1 Q2 B4 B3' Z3
  have P1' := P1
  have P2' := P2
  obtain ⟨A, cap, rfl, hn, hc, hcell⟩ := P1'.open
  obtain ⟨A', cap', rfl, hn', hc', hcell'⟩ := P2'.open
  have HE : Hid (decide (xs.length = ys.length) = ((xs.length : Int) == (ys.length : Int))) := by
    show _ = _
    by_cases h : xs.length = ys.length
    · simp [h]
    · have h2 : ¬ (xs.length : Int) = ys.length := by omega
      simp [h, h2]
  obtain ⟨M, hM⟩ : ∃ M, M = min xs.length ys.length := ⟨_, rfl⟩
  have hMi : min (xs.length : Int) (ys.length : Int) = (M : Int) := by omega
  have HM := Lib.hid hM
  go_wp2
  generalize hbe : ((xs.length : Int) == (ys.length : Int)) = b0 at *
  clear hbe
  clear hM
  go_loopw [7, 8, 36] (fun b _ i wr => ∃ (k : Nat) (c : Bool), k ≤ M ∧ i = .int .i64 k ∧ b = .bool c ∧ Hid (c = decide (xs.length = ys.length ∧ xs.take k = ys.take k)) ∧ Below w4.heap.size w4 wr) (fun _ _ i _ => M - (intOf i).toNat)
  case atStart => exact ⟨0, b0, by omega, rfl, rfl, by show _ = _; rw [← HE.out]; simp, Below.refl _ _⟩
  case round =>
    obtain ⟨k, c, hk, rfl, rfl, HC, hb⟩ := hrel
    by_cases hlt : k < M
    · have hkx : k < xs.length := by have := HM.out; omega
      have hky : k < ys.length := by have := HM.out; omega
      obtain ⟨b, off, rfl, hbl, hc1⟩ := hcell k hkx
      obtain ⟨b', off', rfl, hbl', hc1'⟩ := hcell' k hky
      have hd1 := (hb.cell (p := ⟨b, off + k, none⟩) hbl).trans hc1
      have hd2 := (hb.cell (p := ⟨b', off' + k, none⟩) hbl').trans hc1'
      have hT := take_same hkx hky
      rw [← HC.out] at hT
      clear hc1 hc1' hcell hcell' HC
      have i1 : (k : Int) < (M : Int) := by omega
      have i2 : (k : Int) < xs.length := by omega
      have i3 : (k : Int) < ys.length := by omega
      have hxy : (xs[k] == ys[k]) = decide (xs[k] = ys[k]) := by by_cases h : xs[k] = ys[k] <;> simp [h]
      rw [← hxy] at hT
      generalize xs[k] = x at *
      generalize ys[k] = y at *
      clear hxy
      have HT := Lib.hid hT
      clear hT
      have hbs := hb.size
      have hx1 : ∀ x' : Ext w4.heap.size wr, x'.val.cell? ⟨b, off + k, none⟩ = some (.int .i64 x) := fun x' => (x'.property.cell (p := ⟨b, _, none⟩) hbl).trans hd1
      have hx3 : ∀ x' : Ext w4.heap.size wr, x'.val.cell? ⟨b', off' + k, none⟩ = some (.int .i64 y) := fun x' => (x'.property.cell (p := ⟨b', _, none⟩) hbl').trans hd2
      clear hd1 hd2
      cases c with
      | true =>
        have HT2 : Hid (decide (xs.length = ys.length ∧ xs.take (k + 1) = ys.take (k + 1)) = (x == y)) := by show _ = _; rw [HT.out]; simp
        clear HT
        go_wp2
        refine wp_region_ext w4.heap.size (by kernel_rfl) (by kernel_rfl) ?_
        repeat (go_big_quiet_step (fail))
        refine wpQuiet_nil ?_
        intro w2 hw'
        obtain ⟨xw, hxw⟩ := hw'
        have hb2 := xw.property
        rw [← hxw] at hb2
        clear hxw xw hx1 hx3
        go_wp2
        go_roundw
        case rel => exact ⟨k + 1, _, by omega, by go_num, rfl, HT2.out.symm, hb.trans hb2⟩
        case measure => simp [intOf]; omega
      | false =>
        have HT2 : Hid (decide (xs.length = ys.length ∧ xs.take (k + 1) = ys.take (k + 1)) = false) := by show _ = _; rw [HT.out]; simp
        clear HT
        go_wp2
        refine wp_region_ext w4.heap.size (by kernel_rfl) (by kernel_rfl) ?_
        repeat (go_big_quiet_step (fail))
        refine wpQuiet_nil ?_
        intro w2 hw'
        obtain ⟨xw, hxw⟩ := hw'
        have hb2 := xw.property
        rw [← hxw] at hb2
        clear hxw xw hx1 hx3
        go_wp2
        go_roundw
        case rel => exact ⟨k + 1, _, by omega, by go_num, rfl, HT2.out.symm, hb.trans hb2⟩
        case measure => simp [intOf]; omega
    · have hkM : k = M := by omega
      have hend : c = decide (xs = ys) := by
        rw [HC.out]
        exact take_end (by have := HM.out; omega) (by have := HM.out; omega)
      have HEND := Lib.hid hend
      have HS := Lib.hid (num_same xs ys)
      have i1 : ¬ (k : Int) < (M : Int) := by omega
      have B5 := B4'.trans (hb.mono Z4)
      have S1 := P1.below hb
      have S2 := P2.below hb
      clear hcell hcell' HC hend P1 P2 hkM
      have Z5 := B5.size
      go_wp2_with fail
      refine (HI.out _ xs wr B5 S1 HO1.out hl1).mono ?_
      rintro e w6 ⟨rfl, B6⟩
      have B6' := B5.trans (B6.mono Z5)
      have Z6 := B6'.size
      have S3 := S2.below B6
      go_wp2_with fail
      refine (HI.out _ ys w6 B6' S3 HO2.out hl2).mono ?_
      rintro e w7 ⟨rfl, B7⟩
      have B7' := B6'.trans (B7.mono Z6)
      have HF : Hid ((((numB xs).toList == (numB ys).toList) == c) = true) := by
        show _ = _
        rw [beq_str, HEND.out]; exact HS.out
      generalize numB xs = s1 at *
      generalize numB ys = s2 at *
      go_wp2
      go_ret
      exact ⟨by rw [HF.out]; rfl, B7'⟩


namespace fnNumbers
open Go.RowKit Go.PM Go.ChangeShapes Go.WideShapes Go.ChangeAt
open Go.ChangeMaps (open_string shut_string)
set_option maxRecDepth 100000 in
theorem lifted (os : Os) (started : os.Started) (H : Type) (enc : TypeId × Value → H) :
    ReturnsInHanded {} Tryd.checked os 3 .any (fun w args => (Rows.fnNumbersSpec.pre enc Tryd.prog Tryd.f3 [] false w args ∧ laidMetH Tryd.prog laidL w) ∧ sizedMet enc Tryd.prog Tryd.f3 (OpenSpec.ofChange Rows.fnNumbersSpec) false w args)
      (Rows.fnNumbersSpec.post enc Tryd.prog Tryd.f3 false true false false) := by
  refine returnsInHanded_of_change_and (C := Tryd.checked) (X := fun w _ => laidMetH Tryd.prog laidL w) (fun _ _ _ hh h => h.of_heap hh) own started (by kernel_rfl) Tryd.func3
    (ChangeSpec.witness_at (enc := enc) (C := Tryd.checked) (os := os) (X := fun w _ => laidMetH Tryd.prog laidL w) false (laidWorld os) #[.slice none 0 0, .slice none 0 0] 8 rfl (by kernel_rfl) (by kernel_rfl) (by kernel_rfl) (by kernel_rfl) (by kernel_rfl) (laidWorld_met os _)) ?_
  intro W base args ds gs before hval0 hW _ _ hL _
  have hval : ∀ (j : Nat) t v, Tryd.f3.params[j]? = some t → args[j]? = some v → Value.okWide Tryd.prog W .any base t v := hval0
  have hW' := hW
  obtain ⟨p, q, hA0, hV, rfl, hfz, hnd⟩ := hW
  have hA : DataW.TrodAll enc Tryd.prog W 0 (fun _ => true) true Tryd.f3.params.toList args.toList ds p := hA0
  rw [Tryd.params3] at hA hval
  obtain ⟨v0, vs0, d0, ds0, p0, q0, hargs, rfl, rfl, h0, r0⟩ := trodAll_cons hA
  obtain ⟨v1, vs1, d1, ds1, p1, q1, rfl, rfl, rfl, h1, r1⟩ := trodAll_cons r0
  obtain ⟨rfl, rfl, rfl⟩ := trodAll_nil r1
  obtain rfl : args = #[v0, v1] := by cases args; simp_all
  obtain ⟨rfl, rfl⟩ := trodVars_none hV
  have hG := tp_of_laid hL
  have k0 := h0
  have lt0 : ∀ x ∈ p0, x.block < W.heap.size := by obtain ⟨m, hm⟩ := k0; exact DataW.trod_lt m _ _ _ hm
  have k1 := h1
  have lt1 : ∀ x ∈ p1, x.block < W.heap.size := by obtain ⟨m, hm⟩ := k1; exact DataW.trod_lt m _ _ _ hm
  obtain ⟨a0, len0, cap0, rfl⟩ := okWide_slice Tryd.underlying22 (hval 0 22 v0 rfl rfl)
  have hx0 : RdB W W.heap.size (.slice a0 len0 cap0) len0 := by obtain ⟨fuel, hf⟩ := h0; exact open_bytes hf
  obtain ⟨a1, len1, cap1, rfl⟩ := okWide_slice Tryd.underlying22 (hval 1 22 v1 rfl rfl)
  have hx1 : RdB W W.heap.size (.slice a1 len1 cap1) len1 := by obtain ⟨fuel, hf⟩ := h1; exact open_bytes hf
  clear hA0 hval0
  refine (exNumbers W _ len0 hx0 _ len1 hx1 hG).mono fun e W' ⟨he, bel⟩ => ?_
  subst he
  exact ⟨_, rfl, _, _, _, [], _, [], hW', trodAll_mk1 (shut_bool Tryd.underlying4 _), (trodAll_cons_mk (Below.trod laidOut (by kernel_rfl) (of_decide_eq_true (by kernel_rfl)) k0 bel lt0) (trodAll_cons_mk (Below.trod laidOut (by kernel_rfl) (of_decide_eq_true (by kernel_rfl)) k1 bel lt1) trodAll_mk0)), rfl, bel.frame _, fun h => by cases h⟩

theorem over : Rows.fnNumbersRow.holds Tryd.pinned (OpenSpec.ofChange Rows.fnNumbersSpec) :=
  OpenClaim.holds_of_wide 3 Tryd.f3 rfl rfl rfl rfl rfl rfl rfl ⟨rfl, rfl, rfl, rfl, rfl⟩ rfl rfl rfl rfl rfl (by kernel_rfl) Tryd.func3 (by kernel_rfl)
    (of_decide_eq_true (by kernel_rfl)) (by unfold Func.isWrapper; first | (rw [if_pos (by decide +kernel)]; kernel_rfl) | (rw [if_neg (by decide +kernel)]; exact ⟨rfl, rfl⟩))
    (fun os started H enc _ => lifted os started H enc)

/-- The statement. -/
theorem proved : Rows.FnNumbersCardSaid :=
  Claim7.holds_tied_plain_at .later [] [.data, .data, .data] true Rows.fnNumbersCard.stood.harness false
    over (fun _ h => by cases h) (by kernel_rfl) (fun _ h => by cases h) fnNumbers_row_tie rfl ⟨rfl, rfl⟩ (by kernel_rfl) rfl
    (fun f fn hf hfn => by
      obtain rfl : f = 3 := Option.some.inj ((show Tryd.prog.funcNamed "loop.example/parallelmoves/laws.FnNumbers" = some 3 by kernel_rfl).symm.trans hf) |>.symm
      obtain rfl : fn = Tryd.f3 := (Option.some.inj (Tryd.func3.symm.trans hfn)).symm
      exact ⟨by kernel_rfl, fun j t ht => by
        rw [Tryd.params3] at ht
        rcases j with _ | _ | j
        · obtain rfl : t = 22 := by simpa using ht.symm
          exact (show Tryd.prog.wantsStandIn 22 = false by kernel_rfl)
        · obtain rfl : t = 22 := by simpa using ht.symm
          exact (show Tryd.prog.wantsStandIn 22 = false by kernel_rfl)
        · simp at ht⟩)
    (by kernel_rfl)
end fnNumbers
end Go.Proofs.YtjmbmfemlkicmaaDoor
