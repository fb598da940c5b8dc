import Derived.Test.YteadhnpmmpninaaRings
import Derived.Test.YteadhnpmmpninaaSpotO
import Derived.Test.YteadhnpmmpninaaRange4
namespace Go.PW
open Go.PM Go.RowKit
theorem Ent.unique {nx : Nat → Option Nat} {s : Nat} {a b : Option Nat} (h : Ent nx s a) (k : Ent nx s b) : a = b := by
  obtain ⟨D, hD, h⟩ := h
  obtain ⟨E, hE, k⟩ := k
  have := hD.unique hE
  subst this
  rcases h with ⟨rfl, j, hj⟩ | ⟨rfl, h⟩
  · rcases k with ⟨rfl, _⟩ | ⟨rfl, k⟩
    · rfl
    · exact absurd hj (k j)
  · rcases k with ⟨rfl, j, hj⟩ | ⟨rfl, k⟩
    · exact absurd hj (h j)
    · rfl
theorem ent_ex {nx : Nat → Option Nat} (hn : Nice nx) {s : Nat} (hs : s < 19) : ∃ m, Ent nx s m := by
  obtain ⟨D, hD, _⟩ := (way_rho hn hs).stops
  by_cases h : ∃ k, orb nx s k = none
  · exact ⟨none, D, hD, .inl ⟨rfl, h⟩⟩
  · exact ⟨orb nx s D, D, hD, .inr ⟨rfl, fun k hk => h ⟨k, hk⟩⟩⟩
theorem ringsF_pre {nx : Nat → Option Nat} {a b : Nat} (h : a ≤ b) : ringsF nx a <+: ringsF nx b := by
  induction b with
  | zero => have : a = 0 := by omega
            subst this; exact List.prefix_refl _
  | succ b ih =>
    by_cases e : a = b + 1
    · subst e; exact List.prefix_refl _
    · have h1 := ih (by omega)
      by_cases hc : onRb nx b = true ∧ b ∉ (ringsF nx b).flatten
      · rw [ringsF_yes hc.1 hc.2]; exact h1.trans (List.prefix_append _ _)
      · rw [ringsF_no hc]; exact h1
section
variable {P : Program} {C : World → Prop}
/-- two pointers held against each other in a quiet region -/
theorem ptr_step {F : Fence} {n : Nat} {ops : Array Oper} {Q : Act → Prop} {a : Act} {o : Oper} {rest : List Oper} (hgd : Region.wanted o (yielded ops a.tmps) = true) (ty ty2 : TypeId) (x y : Operand) (ho : o.op = .binOp .neq ty x y ty2) (p q : Option Addr) (hx : a.eval x = .pointer p) (hy : a.eval y = .pointer q) (v : Value)
    (hC : ∀ W, C W → (binOp .neq ty (.pointer p) (.pointer q)).run P W = .ok v W) (h : wpQuietIn F n P ops C Q rest (a.put o.dst v)) : wpQuietIn F n P ops C Q (o :: rest) a := by
  refine wpQuietIn_step (fun w _ f hf => by simp [Oper.about, ho] at hf) (fun K hK => ?_)
  rw [if_pos hgd]
  refine ⟨v, fun W hW => ?_, hK _ h⟩
  unfold Oper.quietAtIn
  have hg : (eqGuard .neq ty x y (.pointer p) (.pointer q)).run P W = .ok () W := by
    simp [eqGuard]
  simp only [execOp, ho, hx, hy, hg, Sem.run_bind, hC W hW, Result.andThen_ok, Sem.run_pure]
  exact ⟨rfl, rfl⟩
end
end Go.PW
namespace Go.Proofs.Yteadhnpmmpninaa
open Go.RowKit Go.PM Go.PW Go.Lib
attribute [local go_sem] Oper.semAt_some

theorem neqp_nil (w : World) (a : Addr) : (binOp .neq 115 (.pointer none) (.pointer (some a))).run Try.prog w = .ok (.bool true) w := by
  have h : ∀ d : Nat, (Op.equalIn (d + 1) 115 (.pointer none) (.pointer (some a))).run Try.prog w = .ok false w := fun d => by
    simp [Op.equalIn, run_underlying Try.underlying115]
  simp only [binOp]
  simp [Op.equal, Op.maxDepth, h 9999]
theorem entrance_v (b : Nat) (nx : Nat → Option Nat) (hn : Nice nx) (s : Nat) (hs : s < 19) (m : Option Nat) (hm : Ent nx s m) (w : World) (hS : Spots w b nx) :
    Calls Try.prog 101 #[spotV b (some s)] w fun e w' => e = .returned (spotV b m) ∧ Below w.heap.size w w' :=
  (entrance_c b nx hn s hs w hS).mono fun e w' ⟨⟨m', e1, e2⟩, e3⟩ => ⟨by rw [e1, hm.unique e2], e3⟩

set_option maxRecDepth 100000 in
set_option maxHeartbeats 1000000 in
theorem rings_iter (b : Nat) (nx : Nat → Option Nat) (hn : Nice nx) :
    IterW (fun W => Spots W b nx) 3 Fence.wide 4 Try.prog 57 (fun y => #[.pointer (some ⟨b, 0, none⟩)] ++ #[y] ++ #[]) (fun r : List Nat => #[.string (txt r)]) (ringsF nx 9) := by
  intro l J Jx W hJ hJx hPr hJW hY h0
  change CallsIn _ _ _ _ #[.pointer (some ⟨b, 0, none⟩), .func (.yield l) #[] #[]] W _
  refine callsIn_of_wp_marks Try.func57 rfl trivial ?_ rfl
  simp only [Try.ntmps57, List.size_toArray, List.length_cons, List.length_nil, Nat.reduceAdd, Nat.reduceSub, Array.replicate_succ, Array.replicate_zero, List.push_toArray, List.append_toArray, List.nil_append, List.cons_append]
  obtain ⟨W0, hW0⟩ : ∃ W0 : World, W0 = ((W.alloc (.cells #[.pointer (some ⟨b, 0, none⟩)] 70)).alloc (.cells #[.func (.yield l) #[] #[]] 123)).alloc (.cells #[.string ⟨#[]⟩] 9) := ⟨_, rfl⟩
  have hS0 : W0.heap.size = W.heap.size + 3 := by rw [hW0]; simp only [World.size_alloc]
  have hA0 : At W0 W.heap.size 70 #[.pointer (some ⟨b, 0, none⟩)] := by rw [hW0]; exact ((At.new _ _ _).alloc _).alloc _
  have hA1 : At W0 (W.heap.size + 1) 123 #[.func (.yield l) #[] #[]] := by
    rw [hW0]; have := At.new (W.alloc (.cells #[.pointer (some ⟨b, 0, none⟩)] 70)) 123 #[.func (.yield l) #[] #[]]
    rw [World.size_alloc] at this
    exact this.alloc _
  have hA2 : At W0 (W.heap.size + 2) 9 #[.string ⟨#[]⟩] := by
    rw [hW0]; have := At.new ((W.alloc (.cells #[.pointer (some ⟨b, 0, none⟩)] 70)).alloc (.cells #[.func (.yield l) #[] #[]] 123)) 9 #[.string ⟨#[]⟩]
    rw [World.size_alloc, World.size_alloc] at this
    exact this
  have hJ0 : J [] W0 := by rw [hW0]; exact hJ.alloc _ (hJ.alloc _ (hJ.alloc _ h0))
  gi_wp2
  rw [← hW0]
  clear hW0
  refine range_law (F := Fence.wide) (gf := 89) (lf := #[.int .i64 9]) (lb := #[]) rfl (by decide) rfl trivial (fun args w => rfl) (encs := fun p : Nat => #[.int .i64 p]) (xs := List.range 9)
    (below_iter _ _ trivial rfl (by decide)) (fun _ => rfl)
    (fun pre A => J (ringsF nx pre.length) A ∧ At A W.heap.size 70 #[.pointer (some ⟨b, 0, none⟩)] ∧ At A (W.heap.size + 1) 123 #[.func (.yield l) #[] #[]] ∧ At A (W.heap.size + 2) 9 #[.string (txt (ringsF nx pre.length).flatten)])
    (fun c pre A => c = .ret ∧ ∃ pre2, pre2 <+: ringsF nx 9 ∧ Jx pre2 A) ?own ?ownx ?start ?a1 ?assign ?body ?done ?stop
  case own =>
    rintro s A A' row ⟨h1, h2, h3, h4⟩ hg hr
    have hr' : ∀ r, row = some r → W.heap.size + 3 ≤ r := fun r e => by have := (hr r e).1; omega
    have hne : ∀ b, b < W.heap.size + 3 → some b ≠ row := fun b hb e => by have := hr' _ e.symm; omega
    exact ⟨hJ _ A A' row h1 hg (fun r e => ⟨by have := hr' r e; omega, (hr r e).2⟩), h2.grown hg (hne _ (by omega)), h3.grown hg (hne _ (by omega)), h4.grown hg (hne _ (by omega))⟩
  case ownx =>
    rintro c s A A' row ⟨h1, pre2, h2, h3⟩ hg hr
    have hr' : ∀ r, row = some r → W.heap.size + 3 ≤ r := fun r e => by have := (hr r e).1; omega
    exact ⟨h1, pre2, h2, hJx _ A A' row h3 hg (fun r e => ⟨by have := hr' r e; omega, (hr r e).2⟩)⟩
  case start => exact ⟨hJ0, hA0, hA1, hA2⟩
  case assign =>
    intro l p W Kc hK
    gi_wp2
    exact hK
  case body =>
    clear hJ0 hA0 hA1 hA2
    rintro l2 pre p A ⟨h1, h2, h3, h4⟩ hp hsz
    obtain ⟨hpl, hp9⟩ := pre_len pre p hp
    rw [hpl] at h1 h4
    have HPL : Hid ((pre ++ [p]).length = p + 1) := by show _ = _; simp [hpl]
    have hSA := hPr _ A h1
    have i0 : (0 : Int) ≤ (p : Int) := by omega
    have i1 : (p : Int) < 19 := by omega
    obtain ⟨m, hm⟩ := ent_ex hn (show p < 19 by omega)
    have HENT := Lib.hid (fun W' hS => entrance_v b nx hn p (by omega) m hm W' hS)
    have hc2 : A.cell? ⟨W.heap.size, 0, none⟩ = some (.pointer (some ⟨b, 0, none⟩)) := h2.cell 0
    have hbA := hSA.lt
    have hENT : ∀ x : Ext A.heap.size A.drew, Calls Try.prog 101 #[.pointer (some ⟨b, p * 2, none⟩)] x.val fun e w' => e = .returned (spotV b m) ∧ Below x.val.heap.size x.val w' := fun x => HENT.out x.val (hSA.below ((Below.refl _ _).drew.trans x.property))
    have hSX : ∀ x : Ext A.heap.size A.drew, Spots x.val b nx := fun x => hSA.below ((Below.refl _ _).drew.trans x.property)
    by_cases hon : m = some p
    · subst hon
      have honR : onRb nx p = true := (onRb_iff hn (by omega)).2 ((hm.onR (way_rho hn (by omega))).1 rfl)
      have hlt9 := ringsF_lt hn p (by omega)
      have hmem := txt_mem hlt9.1 (show p < 19 by omega)
      have hszf := txt_size (ringsF nx p).flatten
      have hneq : ∀ W, (∃ x : Ext A.heap.size A.drew, W = x.val) → (binOp .neq 115 (.pointer (some ⟨b, p * 2, none⟩)) (.pointer (some ⟨b, p * 2, none⟩))).run Try.prog W = .ok (.bool false) W := by
        rintro W ⟨x, rfl⟩; exact neqp_yes x.val _
      have hx4 : ∀ x : Ext A.heap.size A.drew, x.val.cell? ⟨W.heap.size + 2, 0, none⟩ = some (.string (txt (ringsF nx p).flatten)) := fun x => (x.property.cell (p := ⟨W.heap.size + 2, 0, none⟩) h4.lt).trans (h4.cell 0)
      have hxn : ∀ x : Ext A.heap.size A.drew, x.val.cell? ⟨b, p * 2, none⟩ = some (.string ⟨#[ch p]⟩) := fun x => (hSX x).name p (by omega)
      have hcon : ∀ x : Ext A.heap.size A.drew, Calls Try.prog 102 #[.string (txt (ringsF nx p).flatten), .string ⟨#[ch p]⟩] x.val fun e w' => e = .returned (.bool (decide (ch p ∈ (txt (ringsF nx p).flatten).data.toList))) ∧ x.val = w' := fun x =>
        (Try.strings_Contains_one _ _ x.val).mono fun _ _ ⟨e1, e2⟩ => ⟨by
          rw [e1]; congr 2; simp only [indexByte_mem], e2.symm⟩
      have hent : ∀ x : Ext A.heap.size A.drew, Calls Try.prog 101 #[.pointer (some ⟨b, p * 2, none⟩)] x.val fun e w' => e = .returned (.pointer (some ⟨b, p * 2, none⟩)) ∧ Below x.val.heap.size x.val w' := hENT
      have HWB := Lib.hid (fun W' (hS : Spots W' b nx) => wayBack_c b nx hn p (by omega) W' hS)
      have hwl := (way_rho hn (show p < 19 by omega)).len
      have hwz := txt_size (way nx p)
      clear hENT
      by_cases hin : p ∈ (ringsF nx p).flatten
      · have hd : decide (ch p ∈ (txt (ringsF nx p).flatten).data.toList) = true := by simpa using hmem.2 hin
        have HNO := Lib.hid (ringsF_no (nx := nx) (k := p) (fun h => h.2 hin))
        rw [hd] at hcon
        clear hd hmem hin
        generalize ch p = c at *
        gi_wp2
        refine region_quiet_inRound (F := Fence.wide) (C := fun w' => ∃ x : Ext A.heap.size A.drew, w' = x.val) rfl (by kernel_rfl) (by kernel_rfl) (by kernel_rfl) ⟨⟨_, Below.refl _ _⟩, rfl⟩ ?_
        simp only
        gi_big_quiet_step (fail)
        (refine BigFrame.wpQuietIn_want (fun _ _ _ _ => trivial) rfl (fun K hK => ?_); gi_big_quiet_op; refine ⟨_, fun _ => callsIn_wide.2 (ext_call _ (Nat.le_refl _) (hent _)), hK _ ?_⟩; clear hK K)
        gi_big_quiet_step (fail)
        refine ptr_step rfl 115 _ (.tmp 15) (.tmp 16) rfl (some ⟨b, p * 2, none⟩) (some ⟨b, p * 2, none⟩) (by rfl) (by rfl) (.bool false) hneq ?_
        simp only [Act.put, List.setIfInBounds_toArray, List.set_cons_succ, List.set_cons_zero]
        gi_big_quiet_step (fail)
        gi_big_quiet_step (fail)
        gi_big_quiet_step (fail)
        gi_big_quiet_step (fail)
        gi_big_quiet_step (fail)
        gi_big_quiet_step (fail)
        (refine BigFrame.wpQuietIn_want (fun _ _ _ _ => trivial) rfl (fun K hK => ?_); gi_big_quiet_op; refine ⟨_, fun _ => callsIn_wide.2 (ext_same _ (hcon _)), hK _ ?_⟩; clear hK K)
        gi_big_quiet_step (fail)
        refine wpQuietIn_nil ?_
        rintro W2 ⟨xw, rfl⟩
        have hb2 : Below A.heap.size A xw.val := ((Below.refl _ _).drew).trans xw.property
        clear hx4 hxn hcon hent hSX hneq
        generalize xw.val = W2 at *
        have j1 := hJ _ A W2 none h1 (grown_below hb2 none) (fun r e => by cases e)
        have k2 := h2.keep hb2
        have k3 := h3.keep hb2
        have k4 := h4.keep hb2
        gi_wp2
        exact ⟨keepsFrom_below hb2, KeepsIn.zero hb2.size, by rw [HPL.out, HNO.out]; exact j1, k2, k3, by rw [HPL.out, HNO.out]; exact k4⟩
      · have hd : decide (ch p ∈ (txt (ringsF nx p).flatten).data.toList) = false := by simpa using fun h => hin (hmem.1 h)
        have hyes := ringsF_yes honR hin
        have HYES := Lib.hid hyes
        have HSX2 : Hid (txt (ringsF nx (p + 1)).flatten = txt (ringsF nx p).flatten ++ txt (way nx p)) := by
          show _ = _
          rw [hyes, List.flatten_append, txt_append]; simp
        have hpre : ringsF nx p ++ [way nx p] <+: ringsF nx 9 := by rw [← hyes]; exact ringsF_pre (by omega)
        rw [hd] at hcon
        clear hd hmem hin hyes
        generalize ch p = c at *
        gi_wp2
        refine region_quiet_inRound (F := Fence.wide) (C := fun w' => ∃ x : Ext A.heap.size A.drew, w' = x.val) rfl (by kernel_rfl) (by kernel_rfl) (by kernel_rfl) ⟨⟨_, Below.refl _ _⟩, rfl⟩ ?_
        simp only
        gi_big_quiet_step (fail)
        (refine BigFrame.wpQuietIn_want (fun _ _ _ _ => trivial) rfl (fun K hK => ?_); gi_big_quiet_op; refine ⟨_, fun _ => callsIn_wide.2 (ext_call _ (Nat.le_refl _) (hent _)), hK _ ?_⟩; clear hK K)
        gi_big_quiet_step (fail)
        refine ptr_step rfl 115 _ (.tmp 15) (.tmp 16) rfl (some ⟨b, p * 2, none⟩) (some ⟨b, p * 2, none⟩) (by rfl) (by rfl) (.bool false) hneq ?_
        simp only [Act.put, List.setIfInBounds_toArray, List.set_cons_succ, List.set_cons_zero]
        gi_big_quiet_step (fail)
        gi_big_quiet_step (fail)
        gi_big_quiet_step (fail)
        gi_big_quiet_step (fail)
        gi_big_quiet_step (fail)
        gi_big_quiet_step (fail)
        (refine BigFrame.wpQuietIn_want (fun _ _ _ _ => trivial) rfl (fun K hK => ?_); gi_big_quiet_op; refine ⟨_, fun _ => callsIn_wide.2 (ext_same _ (hcon _)), hK _ ?_⟩; clear hK K)
        gi_big_quiet_step (fail)
        refine wpQuietIn_nil ?_
        rintro W2 ⟨xw, rfl⟩
        have hb2 : Below A.heap.size A xw.val := ((Below.refl _ _).drew).trans xw.property
        have hSW := hSX xw
        clear hx4 hxn hcon hent hSX hneq
        generalize xw.val = W2 at *
        have j1 := hJ _ A W2 none h1 (grown_below hb2 none) (fun r e => by cases e)
        have k2 := h2.keep hb2
        have k3 := h3.keep hb2
        have k4 := h4.keep hb2
        have hz2 := hb2.size
        gi_wp2
        refine ⟨trivial, CallsIn.inRound l2 (callsIn_wide.2 ((HWB.out W2 hSW).mono ?_))⟩
        rintro e W3 ⟨rfl, hb3⟩
        have j3 := hJ _ W2 W3 none j1 (grown_below hb3 none) (fun r e => by cases e)
        have m2 := k2.keep hb3
        have m3 := k3.keep hb3
        have m4 := k4.keep hb3
        have hz3 := hb3.size
        have kf3 : KeepsFrom W0.heap.size A W3 := (keepsFrom_below hb2).trans (keepsFrom_below hb3)
        obtain ⟨fn, tmps, assign, body, hy, hR⟩ := yieldAt_wide (m := 1) (hY (ringsF nx p) (way nx p) W3 j3 (by omega) hpre)
        have hyc : W3.cell? ⟨W.heap.size + 1, 0, none⟩ = some (.func (.yield l) #[] #[]) := m3.cell 0
        clear h1 h2 h3 h4 k2 k3 k4 j1
        gi_wp2
        refine hR.mono ?_
        rintro e A2 (⟨rfl, hJ3, hKN, hKF⟩ | ⟨rfl, hJ3, _, hKF⟩)
        · have q2 : At A2 W.heap.size 70 #[.pointer (some ⟨b, 0, none⟩)] := (hKN.same _ (Nat.le_refl _) (by omega)).trans m2
          have q3 : At A2 (W.heap.size + 1) 123 #[.func (.yield l) #[] #[]] := (hKN.same _ (by omega) (by omega)).trans m3
          have q4 : At A2 (W.heap.size + 2) 9 #[.string (txt (ringsF nx p).flatten)] := (hKN.same _ (by omega) (by omega)).trans m4
          have kN : W3.heap.size ≤ A2.heap.size := hKN.size
          have kF : KeepsFrom W0.heap.size A A2 := kf3.trans ⟨hKF.size, fun k o hk h4 h5 => hKF.same k o (by omega) h4 h5⟩
          have c4 : A2.cell? ⟨W.heap.size + 2, 0, none⟩ = some (.string (txt (ringsF nx p).flatten)) := q4.cell 0
          have f4 : A2.frozen? ⟨W.heap.size + 2, 0, none⟩ = false := q4.frozen 0
          have l4 := q4.lt
          have hgs : A2.grownBy (A2.setCell ⟨W.heap.size + 2, 0, none⟩ (.string (txt (ringsF nx p).flatten ++ txt (way nx p)))) (some (W.heap.size + 2)) := grownBy_setCell' A2 (W.heap.size + 2) _
          have j5 := hJW _ A2 _ (W.heap.size + 2) hJ3 (by omega) (by omega) hgs
          have s2 := q2.far (p := ⟨W.heap.size + 2, 0, none⟩) (by simp) (.string (txt (ringsF nx p).flatten ++ txt (way nx p)))
          have s3 := q3.far (p := ⟨W.heap.size + 2, 0, none⟩) (by simp) (.string (txt (ringsF nx p).flatten ++ txt (way nx p)))
          have s4 := q4.set 0 (.string (txt (ringsF nx p).flatten ++ txt (way nx p)))
          clear hR hY m2 m3 m4 q2 q3 q4 hgs
          gi_wp2
          refine ⟨kF.trans ((KeepsOthers.setCell _ _ _).from _), KeepsIn.zero (by simp [World.size_setCell]; omega), ?_, s2, s3, ?_⟩
          · rw [HPL.out, HYES.out]; exact j5
          · rw [HPL.out, HSX2.out]; exact s4
        · have kF : KeepsFrom W0.heap.size A A2 := kf3.trans ⟨hKF.size, fun k o hk h4 h5 => hKF.same k o (by omega) h4 h5⟩
          clear hR hY m2 m3 m4
          gi_wp2
          exact ⟨kF, rfl, _, hpre, hJ3⟩
    · have hno := ringsF_no (nx := nx) (k := p) (fun h => hon ((hm.onR (way_rho hn (by omega))).2 ((onRb_iff hn (by omega)).1 h.1)))
      have HNO := Lib.hid hno
      have hneq : ∀ x : Ext A.heap.size A.drew, ∃ q, spotV b m = .pointer q ∧ (binOp .neq 115 (.pointer q) (.pointer (some ⟨b, p * 2, none⟩))).run Try.prog x.val = .ok (.bool true) x.val := fun x => by
        cases m with
        | none => exact ⟨none, rfl, neqp_nil _ _⟩
        | some y => exact ⟨_, rfl, neqp_no x.val b nx (hSX x) y p (fun e => hon (by rw [e]))⟩
      clear hno hon hm
      gi_wp2
      refine region_quiet_inRound (F := Fence.wide) (C := fun w' => ∃ x : Ext A.heap.size A.drew, w' = x.val) rfl (by kernel_rfl) (by kernel_rfl) (by kernel_rfl) ⟨⟨_, Below.refl _ _⟩, rfl⟩ ?_
      simp only
      gi_big_quiet_step (fail)
      (refine BigFrame.wpQuietIn_want (fun _ _ _ _ => trivial) rfl (fun K hK => ?_); gi_big_quiet_op; refine ⟨_, fun _ => callsIn_wide.2 (ext_call _ (Nat.le_refl _) (hENT _)), hK _ ?_⟩; clear hK K)
      gi_big_quiet_step (fail)
      obtain ⟨q, hq1, hq2⟩ : ∃ q, spotV b m = .pointer q ∧ ∀ W, (∃ x : Ext A.heap.size A.drew, W = x.val) → (binOp .neq 115 (.pointer q) (.pointer (some ⟨b, p * 2, none⟩))).run Try.prog W = .ok (.bool true) W := by
        obtain ⟨q, e1, _⟩ := hneq ⟨_, Below.refl _ _⟩
        refine ⟨q, e1, ?_⟩
        rintro W ⟨x, rfl⟩
        obtain ⟨q', e2, e3⟩ := hneq x
        rw [e1] at e2
        cases e2
        exact e3
      clear hneq
      rw [hq1]
      refine ptr_step rfl 115 _ (.tmp 15) (.tmp 16) rfl q (some ⟨b, p * 2, none⟩) (by rfl) (by rfl) (.bool true) hq2 ?_
      simp only [Act.put, List.setIfInBounds_toArray, List.set_cons_succ, List.set_cons_zero]
      repeat (first | gi_big_quiet_step (fail) | (refine BigFrame.wpQuietIn_skip (fun _ _ _ _ => trivial) rfl ?_; simp only [Act.put, List.setIfInBounds_toArray, List.set_cons_succ, List.set_cons_zero]))
      refine wpQuietIn_nil ?_
      rintro W2 ⟨xw, rfl⟩
      have hb2 : Below A.heap.size A xw.val := ((Below.refl _ _).drew).trans xw.property
      clear hENT hSX hq2
      generalize xw.val = W2 at *
      have j1 := hJ _ A W2 none h1 (grown_below hb2 none) (fun r e => by cases e)
      have k2 := h2.keep hb2
      have k3 := h3.keep hb2
      have k4 := h4.keep hb2
      gi_wp2
      exact ⟨keepsFrom_below hb2, KeepsIn.zero hb2.size, by rw [HPL.out, HNO.out]; exact j1, k2, k3, by rw [HPL.out, HNO.out]; exact k4⟩
  case done =>
    clear hJ0 hA0 hA1 hA2 hY
    intro D A hD hI hd
    obtain ⟨h1, h2, h3, h4⟩ := hI
    gi_wp2
    refine ⟨by simp, .inl ⟨D, _, rfl, run_takeDeferred hd, ?_⟩⟩
    refine ⟨_, results_none rfl _ _ _, ⟨_, rfl⟩, .inl ?_⟩
    exact hJ.putObj _ h1 (by omega) hd rfl
  case stop =>
    clear hJ0 hA0 hA1 hA2 hY
    rintro D c pre A hD hp ⟨rfl, pre2, hp2, h1⟩ hd
    gi_wp2
    refine ⟨by simp, .inl ⟨D, _, rfl, run_takeDeferred hd, ?_⟩⟩
    refine ⟨_, results_none rfl _ _ _, ⟨_, rfl⟩, .inr ⟨pre2, hp2, ?_⟩⟩
    exact hJx.putObj _ h1 (by omega) hd rfl
end Go.Proofs.Yteadhnpmmpninaa
