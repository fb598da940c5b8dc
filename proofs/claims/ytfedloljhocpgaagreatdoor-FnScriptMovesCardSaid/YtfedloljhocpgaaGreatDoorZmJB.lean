import Derived.Test.YtfedloljhocpgaaGreatDoorZmJA
import Derived.Test.YtfedloljhocpgaaGreatDoorBusyP
import Derived.Test.YtfedloljhocpgaaGreatDoorComp
import Derived.Test.YtfedloljhocpgaaGreatDoorNames
import Derived.Test.YtfedloljhocpgaaGreatDoorTail
import Derived.Test.YtfedloljhocpgaaGreatDoorRow
import Derived.Test.YtfedloljhocpgaaGreatDoorRange
import Derived.Test.YtfedloljhocpgaaGreatDoorList
import Derived.Test.YtfedloljhocpgaaGreatDoorP2
import Derived.Test.YtfedloljhocpgaaGreatDoorApp
import Derived.Test.YtfedloljhocpgaaGreatDoorHold
import Derived.Test.YtfedloljhocpgaaGreatDoorBelow
import Derived.Scope
import Derived.WalkMore
import Derived.Test.YtfedloljhocpgaaGreatDoorHeld
namespace Go.PW
open Go.PM Go.RowKit
theorem Ent.unique {nx : Nat → Option Nat} {s : Nat} {a b : Option Nat} (h : Ent nx s a) (k : Ent nx s b) : a = b := by
  obtain ⟨D, hD, h⟩ := h
  obtain ⟨E, hE, k⟩ := k
  have := hD.unique hE
  subst this
  rcases h with ⟨rfl, j, hj⟩ | ⟨rfl, h⟩
  · rcases k with ⟨rfl, _⟩ | ⟨rfl, k⟩
    · rfl
    · exact absurd hj (k j)
  · rcases k with ⟨rfl, j, hj⟩ | ⟨rfl, k⟩
    · exact absurd hj (h j)
    · rfl
theorem ent_ex {nx : Nat → Option Nat} (hn : Nice nx) {s : Nat} (hs : s < 19) : ∃ m, Ent nx s m := by
  obtain ⟨D, hD, _⟩ := (way_rho hn hs).stops
  by_cases h : ∃ k, orb nx s k = none
  · exact ⟨none, D, hD, .inl ⟨rfl, h⟩⟩
  · exact ⟨orb nx s D, D, hD, .inr ⟨rfl, fun k hk => h ⟨k, hk⟩⟩⟩
theorem ringsF_pre {nx : Nat → Option Nat} {a b : Nat} (h : a ≤ b) : ringsF nx a <+: ringsF nx b := by
  induction b with
  | zero => have : a = 0 := by omega
            subst this; exact List.prefix_refl _
  | succ b ih =>
    by_cases e : a = b + 1
    · subst e; exact List.prefix_refl _
    · have h1 := ih (by omega)
      by_cases hc : onRb nx b = true ∧ b ∉ (ringsF nx b).flatten
      · rw [ringsF_yes hc.1 hc.2]; exact h1.trans (List.prefix_append _ _)
      · rw [ringsF_no hc]; exact h1
section
variable {P : Program} {C : World → Prop}
theorem ptr_step {F : Fence} {n : Nat} {ops : Array Oper} {Q : Act → Prop} {a : Act} {o : Oper} {rest : List Oper} (hgd : Region.wanted o (yielded ops a.tmps) = true) (ty ty2 : TypeId) (x y : Operand) (ho : o.op = .binOp .neq ty x y ty2) (p q : Option Addr) (hx : a.eval x = .pointer p) (hy : a.eval y = .pointer q) (v : Value)
    (hC : ∀ W, C W → (binOp .neq ty (.pointer p) (.pointer q)).run P W = .ok v W) (h : wpQuietIn F n P ops C Q rest (a.put o.dst v)) : wpQuietIn F n P ops C Q (o :: rest) a := by
  refine wpQuietIn_step (fun w _ f hf => by simp [Oper.about, ho] at hf) (fun K hK => ?_)
  rw [if_pos hgd]
  refine ⟨v, fun W hW => ?_, hK _ h⟩
  unfold Oper.quietAtIn
  have hg : (eqGuard .neq ty x y (.pointer p) (.pointer q)).run P W = .ok () W := by
    simp [eqGuard]
  simp only [execOp, ho, hx, hy, hg, Sem.run_bind, hC W hW, Result.andThen_ok, Sem.run_pure]
  exact ⟨rfl, rfl⟩
end
end Go.PW
namespace Go.Proofs.YtfedloljhocpgaaGreatDoor
open Go.RowKit Go.PM Go.PW Go.Lib
attribute [local go_sem] Oper.semAt_some

theorem neqp_nil (w : World) (a : Addr) : (binOp .neq 136 (.pointer none) (.pointer (some a))).run Tryz.prog w = .ok (.bool true) w := by
  have h : ∀ d : Nat, (Op.equalIn (d + 1) 136 (.pointer none) (.pointer (some a))).run Tryz.prog w = .ok false w := fun d => by
    simp [Op.equalIn, run_underlying Tryz.underlying136]
  simp only [binOp]
  simp [Op.equal, Op.maxDepth, h 9999]
theorem entrance_v (b : Nat) (nx : Nat → Option Nat) (hn : Nice nx) (s : Nat) (hs : s < 19) (m : Option Nat) (hm : Ent nx s m) (w : World) (hS : Spots w b nx) :
    Calls Tryz.prog 111 #[spotV b (some s)] w fun e w' => e = .returned (spotV b m) ∧ Below w.heap.size w w' :=
  (entrance_c b nx hn s hs w hS).mono fun e w' ⟨⟨m', e1, e2⟩, e3⟩ => ⟨by rw [e1, hm.unique e2], e3⟩
set_option maxRecDepth 100000 in
set_option maxHeartbeats 1000000 in
theorem rings_iter (b : Nat) (nx : Nat → Option Nat) (hn : Nice nx) :
    IterW (fun W => Spots W b nx) 3 Fence.wide 4 Tryz.prog 53 (fun y => #[.pointer (some ⟨b, 0, none⟩)] ++ #[y] ++ #[]) (fun r : List Nat => #[.string (txt r)]) (ringsF nx 9) := by
  intro l J Jx W hJ hJx hPr hJW hY h0
  change CallsIn _ _ _ _ #[.pointer (some ⟨b, 0, none⟩), .func (.yield l) #[] #[]] W _
  refine callsIn_of_wp_marks Tryz.func53 rfl trivial ?_ rfl
  simp only [Tryz.ntmps53, List.size_toArray, List.length_cons, List.length_nil, Nat.reduceAdd, Nat.reduceSub, Array.replicate_succ, Array.replicate_zero, List.push_toArray, List.append_toArray, List.nil_append, List.cons_append]
  obtain ⟨W0, hW0⟩ : ∃ W0 : World, W0 = ((W.alloc (.cells #[.pointer (some ⟨b, 0, none⟩)] 81)).alloc (.cells #[.func (.yield l) #[] #[]] 104)).alloc (.cells #[.string ⟨#[]⟩] 9) := ⟨_, rfl⟩
  have hS0 : W0.heap.size = W.heap.size + 3 := by rw [hW0]; simp only [World.size_alloc]
  have hA0 : At W0 W.heap.size 81 #[.pointer (some ⟨b, 0, none⟩)] := by rw [hW0]; exact ((At.new _ _ _).alloc _).alloc _
  have hA1 : At W0 (W.heap.size + 1) 104 #[.func (.yield l) #[] #[]] := by
    rw [hW0]; have := At.new (W.alloc (.cells #[.pointer (some ⟨b, 0, none⟩)] 81)) 104 #[.func (.yield l) #[] #[]]
    rw [World.size_alloc] at this
    exact this.alloc _
  have hA2 : At W0 (W.heap.size + 2) 9 #[.string ⟨#[]⟩] := by
    rw [hW0]; have := At.new ((W.alloc (.cells #[.pointer (some ⟨b, 0, none⟩)] 81)).alloc (.cells #[.func (.yield l) #[] #[]] 104)) 9 #[.string ⟨#[]⟩]
    rw [World.size_alloc, World.size_alloc] at this
    exact this
  have hJ0 : J [] W0 := by rw [hW0]; exact hJ.alloc _ (hJ.alloc _ (hJ.alloc _ h0))
  gi_wp2
  rw [← hW0]
  clear hW0
  refine range_law (F := Fence.wide) (gf := 56) (lf := #[.int .i64 9]) (lb := #[]) rfl (by decide) rfl trivial (fun args w => rfl) (encs := fun p : Nat => #[.int .i64 p]) (xs := List.range 9)
    (below_iter _ _ trivial rfl (by decide)) (fun _ => rfl)
    (fun pre A => J (ringsF nx pre.length) A ∧ At A W.heap.size 81 #[.pointer (some ⟨b, 0, none⟩)] ∧ At A (W.heap.size + 1) 104 #[.func (.yield l) #[] #[]] ∧ At A (W.heap.size + 2) 9 #[.string (txt (ringsF nx pre.length).flatten)])
    (fun c pre A => c = .ret ∧ ∃ pre2, pre2 <+: ringsF nx 9 ∧ Jx pre2 A) ?own ?ownx ?start ?a1 ?assign ?body ?done ?stop
  case own =>
    rintro s A A' row ⟨h1, h2, h3, h4⟩ hg hr
    have hr' : ∀ r, row = some r → W.heap.size + 3 ≤ r := fun r e => by have := (hr r e).1; omega
    have hne : ∀ b, b < W.heap.size + 3 → some b ≠ row := fun b hb e => by have := hr' _ e.symm; omega
    exact ⟨hJ _ A A' row h1 hg (fun r e => ⟨by have := hr' r e; omega, (hr r e).2⟩), h2.grown hg (hne _ (by omega)), h3.grown hg (hne _ (by omega)), h4.grown hg (hne _ (by omega))⟩
  case ownx =>
    rintro c s A A' row ⟨h1, pre2, h2, h3⟩ hg hr
    have hr' : ∀ r, row = some r → W.heap.size + 3 ≤ r := fun r e => by have := (hr r e).1; omega
    exact ⟨h1, pre2, h2, hJx _ A A' row h3 hg (fun r e => ⟨by have := hr' r e; omega, (hr r e).2⟩)⟩
  case start => exact ⟨hJ0, hA0, hA1, hA2⟩
  case assign =>
    intro l p W Kc hK
    gi_wp2
    exact hK
  case body =>
    clear hJ0 hA0 hA1 hA2
    rintro l2 pre p A ⟨h1, h2, h3, h4⟩ hp hsz
    obtain ⟨hpl, hp9⟩ := pre_len pre p hp
    rw [hpl] at h1 h4
    have HPL : Hid ((pre ++ [p]).length = p + 1) := by show _ = _; simp [hpl]
    have hSA := hPr _ A h1
    have i0 : (0 : Int) ≤ (p : Int) := by omega
    have i1 : (p : Int) < 19 := by omega
    obtain ⟨m, hm⟩ := ent_ex hn (show p < 19 by omega)
    have HENT := Lib.hid (fun W' hS => entrance_v b nx hn p (by omega) m hm W' hS)
    have hc2 : A.cell? ⟨W.heap.size, 0, none⟩ = some (.pointer (some ⟨b, 0, none⟩)) := h2.cell 0
    have hbA := hSA.lt
    have hENT : ∀ x : Ext A.heap.size A.drew, Calls Tryz.prog 111 #[.pointer (some ⟨b, p * 2, none⟩)] x.val fun e w' => e = .returned (spotV b m) ∧ Below x.val.heap.size x.val w' := fun x => HENT.out x.val (hSA.below ((Below.refl _ _).drew.trans x.property))
    have hSX : ∀ x : Ext A.heap.size A.drew, Spots x.val b nx := fun x => hSA.below ((Below.refl _ _).drew.trans x.property)
    by_cases hon : m = some p
    · subst hon
      have honR : onRb nx p = true := (onRb_iff hn (by omega)).2 ((hm.onR (way_rho hn (by omega))).1 rfl)
      have hlt9 := ringsF_lt hn p (by omega)
      have hmem := txt_mem hlt9.1 (show p < 19 by omega)
      have hszf := txt_size (ringsF nx p).flatten
      have hneq : ∀ W, (∃ x : Ext A.heap.size A.drew, W = x.val) → (binOp .neq 136 (.pointer (some ⟨b, p * 2, none⟩)) (.pointer (some ⟨b, p * 2, none⟩))).run Tryz.prog W = .ok (.bool false) W := by
        rintro W ⟨x, rfl⟩; exact neqp_yes x.val _
      have hx4 : ∀ x : Ext A.heap.size A.drew, x.val.cell? ⟨W.heap.size + 2, 0, none⟩ = some (.string (txt (ringsF nx p).flatten)) := fun x => (x.property.cell (p := ⟨W.heap.size + 2, 0, none⟩) h4.lt).trans (h4.cell 0)
      have hxn : ∀ x : Ext A.heap.size A.drew, x.val.cell? ⟨b, p * 2, none⟩ = some (.string ⟨#[ch p]⟩) := fun x => (hSX x).name p (by omega)
      have hcon : ∀ x : Ext A.heap.size A.drew, Calls Tryz.prog 104 #[.string (txt (ringsF nx p).flatten), .string ⟨#[ch p]⟩] x.val fun e w' => e = .returned (.bool (decide (ch p ∈ (txt (ringsF nx p).flatten).data.toList))) ∧ x.val = w' := fun x =>
        (Tryz.strings_Contains_one _ _ x.val).mono fun _ _ ⟨e1, e2⟩ => ⟨by
          rw [e1]; congr 2; simp only [indexByte_mem], e2.symm⟩
      have hent : ∀ x : Ext A.heap.size A.drew, Calls Tryz.prog 111 #[.pointer (some ⟨b, p * 2, none⟩)] x.val fun e w' => e = .returned (.pointer (some ⟨b, p * 2, none⟩)) ∧ Below x.val.heap.size x.val w' := hENT
      have HWB := Lib.hid (fun W' (hS : Spots W' b nx) => wayBack_c b nx hn p (by omega) W' hS)
      have hwl := (way_rho hn (show p < 19 by omega)).len
      have hwz := txt_size (way nx p)
      clear hENT
      by_cases hin : p ∈ (ringsF nx p).flatten
      · have hd : decide (ch p ∈ (txt (ringsF nx p).flatten).data.toList) = true := by simpa using hmem.2 hin
        have HNO := Lib.hid (ringsF_no (nx := nx) (k := p) (fun h => h.2 hin))
        rw [hd] at hcon
        clear hd hmem hin
        generalize ch p = c at *
        gi_wp2
        refine region_quiet_inRound (F := Fence.wide) (C := fun w' => ∃ x : Ext A.heap.size A.drew, w' = x.val) rfl (by kernel_rfl) (by kernel_rfl) (by kernel_rfl) ⟨⟨_, Below.refl _ _⟩, rfl⟩ ?_
        simp only
        gi_big_quiet_step (fail)
        (refine BigFrame.wpQuietIn_want (fun _ _ _ _ => trivial) rfl (fun K hK => ?_); gi_big_quiet_op; refine ⟨_, fun _ => callsIn_wide.2 (ext_call _ (Nat.le_refl _) (hent _)), hK _ ?_⟩; clear hK K)
        gi_big_quiet_step (fail)
        refine ptr_step rfl 136 _ (.tmp 15) (.tmp 16) rfl (some ⟨b, p * 2, none⟩) (some ⟨b, p * 2, none⟩) (by rfl) (by rfl) (.bool false) hneq ?_
        simp only [Act.put, List.setIfInBounds_toArray, List.set_cons_succ, List.set_cons_zero]
        gi_big_quiet_step (fail)
        gi_big_quiet_step (fail)
        gi_big_quiet_step (fail)
        gi_big_quiet_step (fail)
        gi_big_quiet_step (fail)
        gi_big_quiet_step (fail)
        (refine BigFrame.wpQuietIn_want (fun _ _ _ _ => trivial) rfl (fun K hK => ?_); gi_big_quiet_op; refine ⟨_, fun _ => callsIn_wide.2 (ext_same _ (hcon _)), hK _ ?_⟩; clear hK K)
        gi_big_quiet_step (fail)
        refine wpQuietIn_nil ?_
        rintro W2 ⟨xw, rfl⟩
        have hb2 : Below A.heap.size A xw.val := ((Below.refl _ _).drew).trans xw.property
        clear hx4 hxn hcon hent hSX hneq
        generalize xw.val = W2 at *
        have j1 := hJ _ A W2 none h1 (grown_below hb2 none) (fun r e => by cases e)
        have k2 := h2.keep hb2
        have k3 := h3.keep hb2
        have k4 := h4.keep hb2
        gi_wp2
        exact ⟨keepsFrom_below hb2, KeepsIn.zero hb2.size, by rw [HPL.out, HNO.out]; exact j1, k2, k3, by rw [HPL.out, HNO.out]; exact k4⟩
      · have hd : decide (ch p ∈ (txt (ringsF nx p).flatten).data.toList) = false := by simpa using fun h => hin (hmem.1 h)
        have hyes := ringsF_yes honR hin
        have HYES := Lib.hid hyes
        have HSX2 : Hid (txt (ringsF nx (p + 1)).flatten = txt (ringsF nx p).flatten ++ txt (way nx p)) := by
          show _ = _
          rw [hyes, List.flatten_append, txt_append]; simp
        have hpre : ringsF nx p ++ [way nx p] <+: ringsF nx 9 := by rw [← hyes]; exact ringsF_pre (by omega)
        rw [hd] at hcon
        clear hd hmem hin hyes
        generalize ch p = c at *
        gi_wp2
        refine region_quiet_inRound (F := Fence.wide) (C := fun w' => ∃ x : Ext A.heap.size A.drew, w' = x.val) rfl (by kernel_rfl) (by kernel_rfl) (by kernel_rfl) ⟨⟨_, Below.refl _ _⟩, rfl⟩ ?_
        simp only
        gi_big_quiet_step (fail)
        (refine BigFrame.wpQuietIn_want (fun _ _ _ _ => trivial) rfl (fun K hK => ?_); gi_big_quiet_op; refine ⟨_, fun _ => callsIn_wide.2 (ext_call _ (Nat.le_refl _) (hent _)), hK _ ?_⟩; clear hK K)
        gi_big_quiet_step (fail)
        refine ptr_step rfl 136 _ (.tmp 15) (.tmp 16) rfl (some ⟨b, p * 2, none⟩) (some ⟨b, p * 2, none⟩) (by rfl) (by rfl) (.bool false) hneq ?_
        simp only [Act.put, List.setIfInBounds_toArray, List.set_cons_succ, List.set_cons_zero]
        gi_big_quiet_step (fail)
        gi_big_quiet_step (fail)
        gi_big_quiet_step (fail)
        gi_big_quiet_step (fail)
        gi_big_quiet_step (fail)
        gi_big_quiet_step (fail)
        (refine BigFrame.wpQuietIn_want (fun _ _ _ _ => trivial) rfl (fun K hK => ?_); gi_big_quiet_op; refine ⟨_, fun _ => callsIn_wide.2 (ext_same _ (hcon _)), hK _ ?_⟩; clear hK K)
        gi_big_quiet_step (fail)
        refine wpQuietIn_nil ?_
        rintro W2 ⟨xw, rfl⟩
        have hb2 : Below A.heap.size A xw.val := ((Below.refl _ _).drew).trans xw.property
        have hSW := hSX xw
        clear hx4 hxn hcon hent hSX hneq
        generalize xw.val = W2 at *
        have j1 := hJ _ A W2 none h1 (grown_below hb2 none) (fun r e => by cases e)
        have k2 := h2.keep hb2
        have k3 := h3.keep hb2
        have k4 := h4.keep hb2
        have hz2 := hb2.size
        gi_wp2
        refine ⟨trivial, CallsIn.inRound l2 (callsIn_wide.2 ((HWB.out W2 hSW).mono ?_))⟩
        rintro e W3 ⟨rfl, hb3⟩
        have j3 := hJ _ W2 W3 none j1 (grown_below hb3 none) (fun r e => by cases e)
        have m2 := k2.keep hb3
        have m3 := k3.keep hb3
        have m4 := k4.keep hb3
        have hz3 := hb3.size
        have kf3 : KeepsFrom W0.heap.size A W3 := (keepsFrom_below hb2).trans (keepsFrom_below hb3)
        obtain ⟨fn, tmps, assign, body, hy, hR⟩ := yieldAt_wide (m := 1) (hY (ringsF nx p) (way nx p) W3 j3 (by omega) hpre)
        have hyc : W3.cell? ⟨W.heap.size + 1, 0, none⟩ = some (.func (.yield l) #[] #[]) := m3.cell 0
        clear h1 h2 h3 h4 k2 k3 k4 j1
        gi_wp2
        refine hR.mono ?_
        rintro e A2 (⟨rfl, hJ3, hKN, hKF⟩ | ⟨rfl, hJ3, _, hKF⟩)
        · have q2 : At A2 W.heap.size 81 #[.pointer (some ⟨b, 0, none⟩)] := (hKN.same _ (Nat.le_refl _) (by omega)).trans m2
          have q3 : At A2 (W.heap.size + 1) 104 #[.func (.yield l) #[] #[]] := (hKN.same _ (by omega) (by omega)).trans m3
          have q4 : At A2 (W.heap.size + 2) 9 #[.string (txt (ringsF nx p).flatten)] := (hKN.same _ (by omega) (by omega)).trans m4
          have kN : W3.heap.size ≤ A2.heap.size := hKN.size
          have kF : KeepsFrom W0.heap.size A A2 := kf3.trans ⟨hKF.size, fun k o hk h4 h5 => hKF.same k o (by omega) h4 h5⟩
          have c4 : A2.cell? ⟨W.heap.size + 2, 0, none⟩ = some (.string (txt (ringsF nx p).flatten)) := q4.cell 0
          have f4 : A2.frozen? ⟨W.heap.size + 2, 0, none⟩ = false := q4.frozen 0
          have l4 := q4.lt
          have hgs : A2.grownBy (A2.setCell ⟨W.heap.size + 2, 0, none⟩ (.string (txt (ringsF nx p).flatten ++ txt (way nx p)))) (some (W.heap.size + 2)) := grownBy_setCell' A2 (W.heap.size + 2) _
          have j5 := hJW _ A2 _ (W.heap.size + 2) hJ3 (by omega) (by omega) hgs
          have s2 := q2.far (p := ⟨W.heap.size + 2, 0, none⟩) (by simp) (.string (txt (ringsF nx p).flatten ++ txt (way nx p)))
          have s3 := q3.far (p := ⟨W.heap.size + 2, 0, none⟩) (by simp) (.string (txt (ringsF nx p).flatten ++ txt (way nx p)))
          have s4 := q4.set 0 (.string (txt (ringsF nx p).flatten ++ txt (way nx p)))
          clear hR hY m2 m3 m4 q2 q3 q4 hgs
          gi_wp2
          refine ⟨kF.trans ((KeepsOthers.setCell _ _ _).from _), KeepsIn.zero (by simp [World.size_setCell]; omega), ?_, s2, s3, ?_⟩
          · rw [HPL.out, HYES.out]; exact j5
          · rw [HPL.out, HSX2.out]; exact s4
        · have kF : KeepsFrom W0.heap.size A A2 := kf3.trans ⟨hKF.size, fun k o hk h4 h5 => hKF.same k o (by omega) h4 h5⟩
          clear hR hY m2 m3 m4
          gi_wp2
          exact ⟨kF, rfl, _, hpre, hJ3⟩
    · have hno := ringsF_no (nx := nx) (k := p) (fun h => hon ((hm.onR (way_rho hn (by omega))).2 ((onRb_iff hn (by omega)).1 h.1)))
      have HNO := Lib.hid hno
      have hneq : ∀ x : Ext A.heap.size A.drew, ∃ q, spotV b m = .pointer q ∧ (binOp .neq 136 (.pointer q) (.pointer (some ⟨b, p * 2, none⟩))).run Tryz.prog x.val = .ok (.bool true) x.val := fun x => by
        cases m with
        | none => exact ⟨none, rfl, neqp_nil _ _⟩
        | some y => exact ⟨_, rfl, neqp_no x.val b nx (hSX x) y p (fun e => hon (by rw [e]))⟩
      clear hno hon hm
      gi_wp2
      refine region_quiet_inRound (F := Fence.wide) (C := fun w' => ∃ x : Ext A.heap.size A.drew, w' = x.val) rfl (by kernel_rfl) (by kernel_rfl) (by kernel_rfl) ⟨⟨_, Below.refl _ _⟩, rfl⟩ ?_
      simp only
      gi_big_quiet_step (fail)
      (refine BigFrame.wpQuietIn_want (fun _ _ _ _ => trivial) rfl (fun K hK => ?_); gi_big_quiet_op; refine ⟨_, fun _ => callsIn_wide.2 (ext_call _ (Nat.le_refl _) (hENT _)), hK _ ?_⟩; clear hK K)
      gi_big_quiet_step (fail)
      obtain ⟨q, hq1, hq2⟩ : ∃ q, spotV b m = .pointer q ∧ ∀ W, (∃ x : Ext A.heap.size A.drew, W = x.val) → (binOp .neq 136 (.pointer q) (.pointer (some ⟨b, p * 2, none⟩))).run Tryz.prog W = .ok (.bool true) W := by
        obtain ⟨q, e1, _⟩ := hneq ⟨_, Below.refl _ _⟩
        refine ⟨q, e1, ?_⟩
        rintro W ⟨x, rfl⟩
        obtain ⟨q', e2, e3⟩ := hneq x
        rw [e1] at e2
        cases e2
        exact e3
      clear hneq
      rw [hq1]
      refine ptr_step rfl 136 _ (.tmp 15) (.tmp 16) rfl q (some ⟨b, p * 2, none⟩) (by rfl) (by rfl) (.bool true) hq2 ?_
      simp only [Act.put, List.setIfInBounds_toArray, List.set_cons_succ, List.set_cons_zero]
      repeat (first | gi_big_quiet_step (fail) | (refine BigFrame.wpQuietIn_skip (fun _ _ _ _ => trivial) rfl ?_; simp only [Act.put, List.setIfInBounds_toArray, List.set_cons_succ, List.set_cons_zero]))
      refine wpQuietIn_nil ?_
      rintro W2 ⟨xw, rfl⟩
      have hb2 : Below A.heap.size A xw.val := ((Below.refl _ _).drew).trans xw.property
      clear hENT hSX hq2
      generalize xw.val = W2 at *
      have j1 := hJ _ A W2 none h1 (grown_below hb2 none) (fun r e => by cases e)
      have k2 := h2.keep hb2
      have k3 := h3.keep hb2
      have k4 := h4.keep hb2
      gi_wp2
      exact ⟨keepsFrom_below hb2, KeepsIn.zero hb2.size, by rw [HPL.out, HNO.out]; exact j1, k2, k3, by rw [HPL.out, HNO.out]; exact k4⟩
  case done =>
    clear hJ0 hA0 hA1 hA2 hY
    intro D A hD hI hd
    obtain ⟨h1, h2, h3, h4⟩ := hI
    gi_wp2
    refine ⟨by simp, .inl ⟨D, _, rfl, run_takeDeferred hd, ?_⟩⟩
    refine ⟨_, results_none rfl _ _ _, ⟨_, rfl⟩, .inl ?_⟩
    exact hJ.putObj _ h1 (by omega) hd rfl
  case stop =>
    clear hJ0 hA0 hA1 hA2 hY
    rintro D c pre A hD hp ⟨rfl, pre2, hp2, h1⟩ hd
    gi_wp2
    refine ⟨by simp, .inl ⟨D, _, rfl, run_takeDeferred hd, ?_⟩⟩
    refine ⟨_, results_none rfl _ _ _, ⟨_, rfl⟩, .inr ⟨pre2, hp2, ?_⟩⟩
    exact hJx.putObj _ h1 (by omega) hd rfl
end Go.Proofs.YtfedloljhocpgaaGreatDoor
namespace Go.PW
open Go.PM

def joinH (h : Nat → Nat) (a b : Nat) : Nat → Nat := fun q => if h q = h a then h b else h q
def hdF (f : Nat → ByteArray) : Nat → Nat → Nat
  | 0 => id
  | k + 1 => if sx f k < 9 then joinH (hdF f k) k (sx f k) else hdF f k
variable {f : Nat → ByteArray}
theorem hdF_yes {k : Nat} (h : sx f k < 9) : hdF f (k + 1) = joinH (hdF f k) k (sx f k) := by rw [hdF, if_pos h]
theorem hdF_no {k : Nat} (h : ¬ sx f k < 9) : hdF f (k + 1) = hdF f k := by rw [hdF, if_neg h]
theorem hd_sound (S : Nat → Prop) : ∀ k, (∀ p, p < k → sx f p < 9 → (S p ↔ S (sx f p))) → ∀ q r, hdF f k q = hdF f k r → (S q ↔ S r) := by
  intro k
  induction k with
  | zero => intro _ q r e; have : q = r := e; rw [this]
  | succ k ih =>
    intro hS q r e
    have ih := ih (fun p hp => hS p (by omega))
    by_cases h9 : sx f k < 9
    · rw [hdF_yes h9] at e
      have hk := hS k (by omega) h9
      unfold joinH at e
      by_cases h1 : hdF f k q = hdF f k k
      · by_cases h2 : hdF f k r = hdF f k k
        · rw [ih q k h1, ih r k h2]
        · rw [if_pos h1, if_neg h2] at e
          rw [ih q k h1, hk, ih _ r e]
      · by_cases h2 : hdF f k r = hdF f k k
        · rw [if_neg h1, if_pos h2] at e
          rw [ih q _ e, ← hk, ih r k h2]
        · rw [if_neg h1, if_neg h2] at e
          exact ih q r e
    · rw [hdF_no h9] at e
      exact ih q r e
structure Forest (w h dp : Nat → Nat) : Prop where
  lt : ∀ q, q < 9 → w q < 9
  hlt : ∀ q, q < 9 → h q < 9
  root : ∀ q, q < 9 → w q = q → h q = q
  up : ∀ q, q < 9 → w q ≠ q → dp (w q) < dp q ∧ h (w q) = h q
  top : ∀ q, q < 9 → w (h q) = h q
theorem Forest.id : Forest (fun q => q) (fun q => q) (fun _ => 0) := ⟨fun _ h => h, fun _ h => h, fun _ _ _ => rfl, fun _ _ h => absurd rfl h, fun _ _ => rfl⟩
theorem Forest.join {w h dp : Nat → Nat} (F : Forest w h dp) {a b : Nat} (ha : a < 9) (hb : b < 9) :
    ∃ dp', Forest (fun q => if q = h a then h b else w q) (joinH h a b) dp' := by
  have hab := F.hlt a ha
  have hbb := F.hlt b hb
  have ta := F.root _ hab (F.top a ha)
  have tb := F.root _ hbb (F.top b hb)
  by_cases he : h a = h b
  · refine ⟨dp, ⟨fun q hq => ?_, fun q hq => ?_, fun q hq e => ?_, fun q hq e => ?_, fun q hq => ?_⟩⟩
    all_goals
      have e1 : ∀ q, (if q = h a then h b else w q) = w q := by
        intro q
        by_cases h1 : q = h a
        · rw [if_pos h1, h1, ← he, F.top a ha]
        · rw [if_neg h1]
      have e2 : ∀ q, joinH h a b q = h q := by
        intro q; unfold joinH
        by_cases h1 : h q = h a
        · rw [if_pos h1, h1, he]
        · rw [if_neg h1]
      simp only [e1, e2] at *
    · exact F.lt q hq
    · exact F.hlt q hq
    · exact F.root q hq e
    · exact F.up q hq e
    · exact F.top q hq
  · refine ⟨fun q => if h q = h a then dp q + dp (h b) + 1 else dp q, ⟨fun q hq => ?_, fun q hq => ?_, fun q hq e => ?_, fun q hq e => ?_, fun q hq => ?_⟩⟩
    · show (if q = h a then h b else w q) < 9
      by_cases h1 : q = h a
      · rw [if_pos h1]; exact hbb
      · rw [if_neg h1]; exact F.lt q hq
    · unfold joinH
      by_cases h1 : h q = h a
      · rw [if_pos h1]; exact hbb
      · rw [if_neg h1]; exact F.hlt q hq
    · have e : (if q = h a then h b else w q) = q := e
      by_cases h1 : q = h a
      · rw [if_pos h1, h1] at e; exact absurd e.symm he
      · rw [if_neg h1] at e
        have := F.root q hq e
        unfold joinH
        rw [if_neg (by rw [this]; exact h1)]; exact this
    · have e : (if q = h a then h b else w q) ≠ q := e
      show (if h (if q = h a then h b else w q) = h a then dp (if q = h a then h b else w q) + dp (h b) + 1 else dp (if q = h a then h b else w q)) < (if h q = h a then dp q + dp (h b) + 1 else dp q) ∧ joinH h a b (if q = h a then h b else w q) = joinH h a b q
      by_cases h1 : q = h a
      · subst h1
        rw [if_pos rfl, if_neg (by rw [tb]; exact fun h => he h.symm), if_pos ta]
        refine ⟨by omega, ?_⟩
        unfold joinH
        rw [if_neg (by rw [tb]; exact fun h => he h.symm), if_pos ta, tb]
      · rw [if_neg h1] at e ⊢
        have u := F.up q hq e
        rw [u.2]
        refine ⟨?_, by unfold joinH; rw [u.2]⟩
        by_cases h2 : h q = h a
        · rw [if_pos h2, if_pos h2]; omega
        · rw [if_neg h2, if_neg h2]; exact u.1
    · show (if joinH h a b q = h a then h b else w (joinH h a b q)) = joinH h a b q
      unfold joinH
      by_cases h1 : h q = h a
      · rw [if_pos h1, if_neg (fun h => he h.symm)]; exact F.top b hb
      · rw [if_neg h1, if_neg h1]; exact F.top q hq

structure Comp (f : Nat → ByteArray) (p : Nat) (l : List Nat) (done : Nat) : Prop where
  nodup : l.Nodup
  lt : ∀ q ∈ l, q < 9
  has : p ∈ l
  in_ : ∀ q ∈ l, hdF f 9 q = hdF f 9 p
  out : ∀ k q, k < done → l[k]? = some q → (sx f q < 9 → sx f q ∈ l) ∧ ∀ r, r < 9 → sx f r = q → r ∈ l
theorem Comp.all {p : Nat} {l : List Nat} (h : Comp f p l l.length) : ∀ q, q < 9 → (q ∈ l ↔ hdF f 9 q = hdF f 9 p) := by
  intro q hq
  refine ⟨h.in_ q, fun e => ?_⟩
  refine (hd_sound (f := f) (fun x => x ∈ l) 9 (fun r hr h9 => ?_) q p e).2 h.has
  have hin : ∀ x, x ∈ l → (sx f x < 9 → sx f x ∈ l) ∧ ∀ r, r < 9 → sx f r = x → r ∈ l := by
    intro x hx
    obtain ⟨k, hk⟩ := List.getElem?_of_mem hx
    exact h.out k x (List.getElem?_eq_some_iff.1 hk).1 hk
  exact ⟨fun hm => (hin r hm).1 h9, fun hm => (hin _ hm).2 r hr rfl⟩
end Go.PW
namespace Go.PW
open Go.PM
variable {f : Nat → ByteArray}
def wheelH (f : Nat → ByteArray) (p q : Nat) : Bool := decide (hdF f 9 q = hdF f 9 p)
def wheelL (f : Nat → ByteArray) (p : Nat) : List Nat := (List.range 9).filter (wheelH f p)
theorem wheelL_mem {p q : Nat} : q ∈ wheelL f p ↔ q < 9 ∧ hdF f 9 q = hdF f 9 p := by
  simp [wheelL, wheelH]
theorem wheelL_lt {p : Nat} : ∀ a ∈ wheelL f p, a < 9 := fun _a ha => (wheelL_mem.1 ha).1
theorem wheelL_self {p : Nat} (hp : p < 9) : p ∈ wheelL f p := wheelL_mem.2 ⟨hp, rfl⟩
theorem wheelL_len (p : Nat) : (wheelL f p).length ≤ 9 := by
  have := List.length_filter_le (wheelH f p) (List.range 9)
  simpa [wheelL] using this
theorem head_le : ∀ (l : List Nat), l.Pairwise (· < ·) → ∀ a ∈ l, ∃ h, l.head? = some h ∧ h ≤ a ∧ h ∈ l
  | [], _, a, ha => by cases ha
  | x :: l, hp, a, ha => by
    refine ⟨x, rfl, ?_, by simp⟩
    rw [List.mem_cons] at ha
    rcases ha with rfl | ha
    · exact Nat.le_refl _
    · exact Nat.le_of_lt ((List.pairwise_cons.1 hp).1 a ha)
theorem wheelL_sorted (p : Nat) : (wheelL f p).Pairwise (· < ·) := by
  unfold wheelL
  exact (List.pairwise_lt_range (n := 9)).filter _
theorem wheelL_head {p : Nat} (hp : p < 9) : ∃ h, (wheelL f p).head? = some h ∧ h ≤ p ∧ h ∈ wheelL f p := head_le _ (wheelL_sorted p) p (wheelL_self hp)
def firstW (f : Nat → ByteArray) (p : Nat) : Bool := decide (1 < (wheelL f p).length ∧ (wheelL f p).head? = some p)
def wheelsF (f : Nat → ByteArray) (k : Nat) : List (List Nat) := ((List.range k).filter (firstW f)).map (wheelL f)
theorem wheelsF_yes {k : Nat} (h : firstW f k = true) : wheelsF f (k + 1) = wheelsF f k ++ [wheelL f k] := by simp [wheelsF, List.range_succ, h]
theorem wheelsF_no {k : Nat} (h : firstW f k = false) : wheelsF f (k + 1) = wheelsF f k := by simp [wheelsF, List.range_succ, h]
theorem wheelsF_len (k : Nat) : (wheelsF f k).length ≤ k := by
  unfold wheelsF; rw [List.length_map]
  have := List.length_filter_le (firstW f) (List.range k)
  simpa using this
theorem flat_len : ∀ (l : List (List Nat)), (∀ x ∈ l, x.length ≤ 9) → l.flatten.length ≤ 9 * l.length
  | [], _ => by simp
  | x :: l, h => by
    have := flat_len l fun y hy => h y (by simp [hy])
    have := h x (by simp)
    simp only [List.flatten_cons, List.length_append, List.length_cons]; omega
theorem wheelsF_flat (k : Nat) : (∀ a ∈ (wheelsF f k).flatten, a < 9) ∧ (wheelsF f k).flatten.length ≤ 9 * k := by
  have hm : ∀ x ∈ wheelsF f k, ∃ p, x = wheelL f p := fun x hx => by
    obtain ⟨p, _, e⟩ := List.mem_map.1 hx; exact ⟨p, e.symm⟩
  refine ⟨fun a ha => ?_, ?_⟩
  · obtain ⟨x, hx, ha⟩ := List.mem_flatten.1 ha
    obtain ⟨p, rfl⟩ := hm x hx
    exact wheelL_lt a ha
  · have h1 := flat_len (wheelsF f k) fun x hx => by obtain ⟨p, rfl⟩ := hm x hx; exact wheelL_len p
    have h2 := wheelsF_len (f := f) k
    omega
theorem ring_pred {nx : Nat → Option Nat} {i : Nat} (h : OnR nx i) : ∃ j, nx j = some i := by
  obtain ⟨k, hk, e⟩ := h
  obtain ⟨k, rfl⟩ : ∃ m, k = m + 1 := ⟨k - 1, by omega⟩
  simp only [orb, Option.bind_eq_some_iff] at e
  obtain ⟨j, _, e⟩ := e
  exact ⟨j, e⟩
theorem ring_all {nx : Nat → Option Nat} (hn : Nice nx) {s : Nat} (hs : s < 19) (h : OnR nx s) : ∀ i ∈ way nx s, OnR nx i := by
  intro i hi
  have hr := way_rho hn hs
  have e := hr.onR.1 h
  obtain ⟨j, hj⟩ := List.getElem?_of_mem hi
  have hlt := (List.getElem?_eq_some_iff.1 hj).1
  rw [hr.at_ j hlt] at hj
  exact (hr.ring_at hr.pos (by rw [e]; rfl) hj).2 (Nat.zero_le _)
theorem ring_low {nx : Nat → Option Nat} (hn : Nice nx) {i : Nat} (h : OnR nx i) : i < 9 := by
  obtain ⟨k, hk, e⟩ := h
  obtain ⟨k, rfl⟩ : ∃ m, k = m + 1 := ⟨k - 1, by omega⟩
  rw [show k + 1 = 1 + k by omega, orb_add] at e
  cases h1 : orb nx i 1 with
  | none => rw [h1] at e; cases e
  | some j => exact hn.low i j (by simpa [orb] using h1)
def rcount (f : Nat → ByteArray) (i : Nat) : Nat := (namesW (rdH f (sn i))).size
theorem rcount_pos {f : Nat → ByteArray} (hf : SV f) {i j : Nat} (hi : i < 19) (h : nxT f j = some i) : 1 ≤ rcount f i := by
  have hj := (nice hf).low _ _ h
  have hs : sx f j = i ∧ j ≠ i := by
    unfold nxT at h
    rw [if_pos hj] at h
    by_cases e : sx f j = j
    · rw [if_pos e] at h; cases h
    · rw [if_neg e, Option.some.injEq] at h; exact ⟨h, fun e2 => e (by rw [h, e2])⟩
  have hr : rdH f (sn i) j = true := by
    unfold rdH
    rw [← (sx_lt hf hj).2, hs.1, ← sn_nm j hj]
    simp only [decide_true, Bool.and_true, decide_eq_true_eq]
    exact fun e => hs.2 (sn_inj (by omega) hi e)
  unfold rcount namesW
  have : j ∈ (List.range 9).filter (rdH f (sn i)) := List.mem_filter.2 ⟨by simpa using hj, hr⟩
  have h0 := List.length_pos_of_mem this
  have e : (ByteArray.mk (namesL (rdH f (sn i)) (List.range 9)).toArray).size = ((List.range 9).filter (rdH f (sn i))).length := by simp [ByteArray.size, namesL]
  rw [e]; exact h0
def shut (f : Nat → ByteArray) (l : List Nat) : Bool := l.all fun i => decide (rcount f i ≤ 1)
theorem ring_one {f : Nat → ByteArray} (hf : SV f) {s : Nat} (hs : s < 19) (h : onRb (nxT f) s = true) {i : Nat} (hi : i ∈ way (nxT f) s) : (rcount f i ≤ 1 ↔ rcount f i = 1) := by
  have hn := nice hf
  have h1 := ring_all hn hs ((onRb_iff hn hs).1 h) i hi
  obtain ⟨j, hj⟩ := ring_pred h1
  have := rcount_pos hf ((way_rho hn hs).lt i hi) hj
  omega
end Go.PW
namespace Go.Proofs.YtfedloljhocpgaaGreatDoor
open Go.RowKit Go.PM

set_option maxRecDepth 100000 in
set_option maxHeartbeats 1000000 in
theorem l1Busy_c (xs : List Mv) (v : Value) (w : World) (hx : RdM w v xs) :
    Calls Tryz.prog 95 #[v] w fun e w' => ∃ v', e = .returned v' ∧ w'.ownsRow w.heap.size 56 2 v' (busyF xs 9).length (mcells (busyF xs 9)) ∧ Below w.heap.size w w' := by
  have HN : Hid (∀ q, q < 9 → (ByteArray.mk #[97, 98, 99, 100, 101, 102, 65, 66, 67]).extract q (q+1) = nm q) := by
    show ∀ q, _
    intro q hq
    match q, hq with
    | 0, _ | 1, _ | 2, _ | 3, _ | 4, _ | 5, _ | 6, _ | 7, _ | 8, _ => decide +kernel
  have HS := Lib.hid (fun W (hW : RdM W v xs) (p : Nat) => l1Source_c xs v (nm p) W hW)
  have HX := Lib.hid (fun W (hW : Below w.heap.size w W) => hx.below hW)
  have hE := World.ownsRow_lit (e := 56) (base := w.heap.size) (size := 2) w #[] 0 (Nat.le_refl _) (Nat.zero_le _) rfl
  go_enter Tryz.func95, Tryz.ntmps95
  go_wp2
  go_loopw [3, 8] (fun o i wr => ∃ (k : Nat), k ≤ 9 ∧ i = .int .i64 k ∧ wr.ownsRow w.heap.size 56 2 o (busyF xs k).length (mcells (busyF xs k)) ∧ Below w.heap.size w wr) (fun _ i _ => 9 - (intOf i).toNat)
  case atStart => exact ⟨0, by omega, rfl, hE, by (repeat' (first | (with_reducible exact Below.refl _ _) | (with_reducible assumption) | (with_reducible refine Below.alloc ?_ ?_ _) | (with_reducible refine Below.drew ?_) | (with_reducible refine Below.setCell ?_ ?_ _) | (with_reducible exact Nat.le_refl _) | omega | ((repeat (first | rewrite [World.size_alloc] | rewrite [World.size_setCell] | rewrite [World.size_drew])); omega) | (simp; omega) | (simp; done)))⟩
  case round =>
    obtain ⟨k, hk, rfl, ho, hb⟩ := hrel
    have hbs := hb.size
    by_cases hlt : k < 9
    · have hex := HN.out k hlt
      have hxr := HX.out wr hb
      have HY := Lib.hid (busyF_yes xs k)
      have HZ := Lib.hid (busyF_no xs k)
      have HH := Lib.hid (show busyH xs k = decide (srcM xs (nm k) ≠ nm k) from rfl)
      have hle := busyF_len xs k
      have hcall := HS.out wr hxr k
      have HC := Lib.hid hcall
      clear hcall
      generalize srcM xs (nm k) = sk at *
      generalize nm k = q at *
      go_wp2_with fail
      refine HC.out.mono ?_
      rintro e w2 ⟨rfl, hb2⟩
      have hb2s := hb2.size
      have ho2 := own_keep ho hb2
      have hbw := hb.trans (hb2.mono hbs)
      have hbws := hbw.size
      have hnw := two_new w2 (.string q) (.string sk) 56
      go_wp2_with (at_builtin; refine app_mv rfl (.tmp 21) (.tmp 25) rfl w.heap.size u3 (busyF xs k) (q, sk) ⟨w2.heap.size, 0, none⟩ 1 (by rfl) (by rfl) ?hown ?hnew ?hlen ?hbase ?_; rotate_left 4; intro v' w3 hown3 hgrow3)
      case hown => exact own_keep ho2 ((Below.refl _ _).alloc (Nat.le_refl _) _)
      try case hnew => exact hnw
      case hlen => omega
      case hbase => simp; omega
      · have h : (!(sk.toList == q.toList)) = true := by assumption
        rw [bne_str] at h
        have hb3 := below_grown hgrow3 (B := w.heap.size) (by simp; omega) (own_block_ge ho)
        go_roundw
        case rel =>
          refine ⟨k + 1, by omega, by go_num, ?_, ?_⟩
          · rw [HY.out (by rw [HH.out]; exact h)]; exact hown3
          · exact Below.trans (by (repeat' (first | (with_reducible exact Below.refl _ _) | (with_reducible assumption) | (with_reducible refine Below.alloc ?_ ?_ _) | (with_reducible refine Below.drew ?_) | (with_reducible refine Below.setCell ?_ ?_ _) | (with_reducible exact Nat.le_refl _) | omega | ((repeat (first | rewrite [World.size_alloc] | rewrite [World.size_setCell] | rewrite [World.size_drew])); omega) | (simp; omega) | (simp; done)))) hb3
        case measure => simp [intOf]; omega
      · have h : (!(sk.toList == q.toList)) = false := by assumption
        rw [bne_str] at h
        go_roundw
        case rel =>
          refine ⟨k + 1, by omega, by go_num, ?_, by (repeat' (first | (with_reducible exact Below.refl _ _) | (with_reducible assumption) | (with_reducible refine Below.alloc ?_ ?_ _) | (with_reducible refine Below.drew ?_) | (with_reducible refine Below.setCell ?_ ?_ _) | (with_reducible exact Nat.le_refl _) | omega | ((repeat (first | rewrite [World.size_alloc] | rewrite [World.size_setCell] | rewrite [World.size_drew])); omega) | (simp; omega) | (simp; done)))⟩
          rw [HZ.out (by rw [HH.out]; exact h)]; exact ho2
        case measure => simp [intOf]; omega
    · have hk9 : k = 9 := by omega
      subst hk9
      go_wp2
      go_ret
      exact ⟨_, rfl, ho, hb⟩
def countI (xs : List Mv) : Int := if mvalid xs then ((busyF xs 9).length : Int) else -1
set_option maxRecDepth 100000 in
theorem imCountBusy_c (xs : List Mv) (v : Value) (w : World) (hx : RdM w v xs) (hn' : xs.length ≤ 1048576) :
    Calls Tryz.prog 20 #[v] w fun e w' => e = .returned (.int .i64 (countI xs)) ∧ Below w.heap.size w w' := by
  rcases Bool.eq_false_or_eq_true (mvalid xs) with h1 | h1
  · have HO : Hid (((dropM xs).length : Int) = countI xs) := by
      show _ = _
      rw [countI, if_pos h1, dropM, if_pos h1, busy_count (by simpa [mvalid] using h1)]
    go_enter Tryz.func20, Tryz.ntmps20
    go_wp2_with fail
    refine (imDropIdle_c xs v _ hx hn').mono ?_
    rintro e w1 ⟨v', he, ho, hb1⟩
    rw [h1] at he
    subst he
    obtain ⟨A, cap, rfl, _⟩ := Rd.of_own ho
    go_wp2
    go_ret
    exact ⟨by rw [← HO.out]; rfl, hb1⟩
  · have HO : Hid (countI xs = -1) := by show _ = _; rw [countI, h1]; rfl
    go_enter Tryz.func20, Tryz.ntmps20
    go_wp2_with fail
    refine (imDropIdle_c xs v _ hx hn').mono ?_
    rintro e w1 ⟨v', he, ho, hb1⟩
    rw [h1] at he
    subst he
    go_wp2
    go_ret
    exact ⟨by rw [HO.out]; rfl, hb1⟩
end Go.Proofs.YtfedloljhocpgaaGreatDoor
namespace Go.PM
open Go.RowKit
def leafH (f : Nat → ByteArray) (p : Nat) : Bool := decide (srcT f p ≠ nm p) && decide (namesW (rdH f (nm p)) = emp)
def leavesB (xs : List Mv) : ByteArray := namesW (leafH (tabOf xs))
theorem emp_iff (s : ByteArray) : s.toList.isEmpty = decide (s = emp) := by
  rw [ByteArray.toList_eq]
  by_cases h : s = emp
  · subst h; simp
  · cases hl : s.data.toList with
    | nil => exact absurd (Go.WideShapes.bytes_inj (by rw [hl])) h
    | cons a l => simp [h]
end Go.PM
namespace Go.Proofs.YtfedloljhocpgaaGreatDoor
open Go.RowKit Go.PM

set_option maxRecDepth 100000 in
set_option maxHeartbeats 1000000 in
theorem leafFn_c (f : Nat → ByteArray) (p : Nat) (hp : p < 9) (b2 : Nat) (w : World) (h2 : At w b2 65 (tabA f)) :
    Calls Tryz.prog 154 #[.int .i64 p, .pointer (some ⟨b2, 0, none⟩)] w fun e w' => e = .returned (.bool (leafH f p)) ∧ Below w.heap.size w w' := by
  have l2 := h2.lt
  have hc0 : ∀ x : Ext w.heap.size w, x.val.cell? ⟨b2, 0, none⟩ = some (.string (f 0)) := fun x => (x.property.cell (p := ⟨b2, 0, none⟩) l2).trans (h2.cell 0)
  have hc1 : ∀ x : Ext w.heap.size w, x.val.cell? ⟨b2, 1, none⟩ = some (.string (f 1)) := fun x => (x.property.cell (p := ⟨b2, 1, none⟩) l2).trans (h2.cell 1)
  have hc2 : ∀ x : Ext w.heap.size w, x.val.cell? ⟨b2, 2, none⟩ = some (.string (f 2)) := fun x => (x.property.cell (p := ⟨b2, 2, none⟩) l2).trans (h2.cell 2)
  have hc3 : ∀ x : Ext w.heap.size w, x.val.cell? ⟨b2, 3, none⟩ = some (.string (f 3)) := fun x => (x.property.cell (p := ⟨b2, 3, none⟩) l2).trans (h2.cell 3)
  have hc4 : ∀ x : Ext w.heap.size w, x.val.cell? ⟨b2, 4, none⟩ = some (.string (f 4)) := fun x => (x.property.cell (p := ⟨b2, 4, none⟩) l2).trans (h2.cell 4)
  have hc5 : ∀ x : Ext w.heap.size w, x.val.cell? ⟨b2, 5, none⟩ = some (.string (f 5)) := fun x => (x.property.cell (p := ⟨b2, 5, none⟩) l2).trans (h2.cell 5)
  have hc6 : ∀ x : Ext w.heap.size w, x.val.cell? ⟨b2, 6, none⟩ = some (.string (f 6)) := fun x => (x.property.cell (p := ⟨b2, 6, none⟩) l2).trans (h2.cell 6)
  have hc7 : ∀ x : Ext w.heap.size w, x.val.cell? ⟨b2, 7, none⟩ = some (.string (f 7)) := fun x => (x.property.cell (p := ⟨b2, 7, none⟩) l2).trans (h2.cell 7)
  have hc8 : ∀ x : Ext w.heap.size w, x.val.cell? ⟨b2, 8, none⟩ = some (.string (f 8)) := fun x => (x.property.cell (p := ⟨b2, 8, none⟩) l2).trans (h2.cell 8)
  have HN := Lib.hid (fun W => name_c p hp W)
  have HSS := Lib.hid (fun W => source_c f p hp W)
  have HRR := Lib.hid (fun W => readers_c f (nm p) W)
  have HH := Lib.hid (show leafH f p = (decide (srcT f p ≠ nm p) && decide (namesW (rdH f (nm p)) = emp)) from rfl)
  generalize namesW (rdH f (nm p)) = rr at *
  generalize srcT f p = sr at *
  generalize nm p = q at *
  rcases Bool.eq_false_or_eq_true (sr.toList == q.toList) with hd | hd
  all_goals
    go_enter Tryz.func154, Tryz.ntmps154
    go_wp2
    refine wp_region_ext w.heap.size (by kernel_rfl) (by kernel_rfl) ?_
    repeat (go_big_quiet_step (first | (go_at_call 59; exact ext_same _ (HN.out _)) | (go_at_call 110; exact ext_call _ (Nat.le_refl _) (HSS.out _)) | (go_at_call 54; exact ext_call _ (Nat.le_refl _) (HRR.out _))))
    refine wpQuiet_nil ?_
    intro w2 hw'
    obtain ⟨xw, hxw⟩ := hw'
    have hb2 := xw.property
    rw [← hxw] at hb2
    clear hxw xw hc0 hc1 hc2 hc3 hc4 hc5 hc6 hc7 hc8
    go_wp2
    go_ret
    refine ⟨?_, hb2⟩
    rw [HH.out]
  · have : sr = q := by rw [beq_str, decide_eq_true_eq] at hd; exact hd
    rw [this]; simp
  · have : ¬ sr = q := by rw [beq_str, decide_eq_false_iff_not] at hd; exact hd
    rw [emp_iff]; simp [this]
set_option maxRecDepth 100000 in
theorem leaves_c (f : Nat → ByteArray) (w : World) :
    Calls Tryz.prog 109 #[tabX f] w fun e w' => e = .returned (.string (namesW (leafH f))) ∧ Below w.heap.size w w' := by
  go_enter Tryz.func109, Tryz.ntmps109
  go_wp2_with fail
  have q2 : At (w.alloc (.cells (tabA f) 65)) w.heap.size 65 (tabA f) := At.new w _ _
  refine (names_c 154 #[.pointer (some ⟨w.heap.size, 0, none⟩)] (leafH f) _ (fun _ _ => rfl) (fun p hp W hW => ?_)).mono ?_
  · exact leafFn_c f p hp _ W (q2.keep hW)
  · rintro e w3 ⟨rfl, hb3⟩
    have b3 := ((Below.refl w.heap.size w).alloc (Nat.le_refl _) (.cells (tabA f) 65)).trans (hb3.mono (by simp [World.size_alloc]))
    clear q2 hb3
    go_wp2
    go_ret
    exact ⟨rfl, b3⟩
end Go.Proofs.YtfedloljhocpgaaGreatDoor
namespace Go.PM
open Go.RowKit
theorem namesW_emp {h : Nat → Bool} : namesW h = emp ↔ ∀ p, p < 9 → h p = false := by
  have e : namesW h = emp ↔ (List.range 9).filter h = [] := by
    constructor
    · intro e
      have := congrArg (fun s => s.data.toList.length) e
      simp only [namesW, namesL, List.length_map] at this
      exact List.length_eq_zero_iff.1 this
    · intro e
      rw [namesW, namesL, e]; rfl
  rw [e, List.filter_eq_nil_iff]
  constructor
  · intro g p hp; simpa using g p (by simpa using hp)
  · intro g p hp; simpa using g p (by simpa using hp)
def Exch (S : Nat → ByteArray) : Prop := ∀ q, q < 9 → ∃ p, p < 9 ∧ S p = nm q
theorem leaf_exch (f : Nat → ByteArray) : namesW (leafH f) = emp ↔ Exch (srcT f) := by
  rw [namesW_emp]
  constructor
  · intro h q hq
    have h1 := h q hq
    unfold leafH at h1
    by_cases h2 : srcT f q = nm q
    · exact ⟨q, hq, h2⟩
    · have h3 : ¬ namesW (rdH f (nm q)) = emp := by simpa [h2] using h1
      rw [namesW_emp] at h3
      obtain ⟨p, h4⟩ := Classical.not_forall.1 h3
      obtain ⟨hp, h5⟩ := Classical.not_imp.1 h4
      have h6 : rdH f (nm q) p = true := by simpa using h5
      unfold rdH at h6
      rw [Bool.and_eq_true] at h6
      exact ⟨p, hp, by simpa using h6.2⟩
  · intro h q hq
    obtain ⟨p, hp, e⟩ := h q hq
    unfold leafH
    by_cases h2 : srcT f q = nm q
    · simp [h2]
    · have hne : nm p ≠ nm q := fun e2 => by
        have := nm_inj hp hq e2
        subst this; exact h2 e
      have : namesW (rdH f (nm q)) ≠ emp := fun h3 => by
        have := namesW_emp.1 h3 p hp
        unfold rdH at this
        simp [hne, e] at this
      simp [this]
theorem Exch.congr {S T : Nat → ByteArray} (h : ∀ p, p < 9 → S p = T p) (e : Exch S) : Exch T := fun q hq => by
  obtain ⟨p, hp, e1⟩ := e q hq
  exact ⟨p, hp, (h p hp).symm.trans e1⟩
theorem exch_drop {S : Nat → ByteArray} {p' : Nat} (hp' : p' < 9) (h : ∀ q, q < 9 → ∃ p, p < 9 ∧ p ≠ p' ∧ S p = nm q) : False := by
  have n1 : ((List.range 9).map nm).Nodup := by decide +kernel
  have h1 := nodup_le ((List.range 9).map nm) (((List.range 9).erase p').map S) n1 (fun a ha => by
    obtain ⟨q, hq, rfl⟩ := List.mem_map.1 ha
    obtain ⟨p, hp, hne, e⟩ := h q (by simpa using hq)
    exact List.mem_map.2 ⟨p, (List.mem_erase_of_ne hne).2 (by simpa using hp), e⟩)
  have h2 := List.length_erase_of_mem (show p' ∈ List.range 9 by simpa using hp')
  simp only [List.length_map, List.length_range] at h1 h2
  omega
theorem Exch.inj {S : Nat → ByteArray} (h : Exch S) {p p' : Nat} (hp : p < 9) (hp' : p' < 9) (e : S p = S p') : p = p' := by
  rcases Nat.decEq p p' with hne | he
  · exfalso
    refine exch_drop (S := S) hp' fun q hq => ?_
    obtain ⟨r, hr, e1⟩ := h q hq
    by_cases h1 : r = p'
    · subst h1; exact ⟨p, hp, hne, e.trans e1⟩
    · exact ⟨r, hr, h1, e1⟩
  · exact he
theorem Exch.place {S : Nat → ByteArray} (h : Exch S) {p : Nat} (hp : p < 9) : isP (S p) = true := by
  rcases Bool.eq_false_or_eq_true (isP (S p)) with h1 | h1
  · exact h1
  · exfalso
    refine exch_drop (S := S) hp fun q hq => ?_
    obtain ⟨r, hr, e1⟩ := h q hq
    refine ⟨r, hr, fun e => ?_, e1⟩
    subst e
    rw [e1, isP_nm hq] at h1
    cases h1
def invI (S : Nat → ByteArray) (q : Nat) : Nat := ((List.range 9).find? fun p => decide (S p = nm q)).getD 0
def invF (S : Nat → ByteArray) (q : Nat) : ByteArray := nm (invI S q)
theorem Exch.inv {S : Nat → ByteArray} (h : Exch S) {q : Nat} (hq : q < 9) : invI S q < 9 ∧ S (invI S q) = nm q := by
  obtain ⟨p, hp, e⟩ := h q hq
  unfold invI
  cases hf : (List.range 9).find? (fun p => decide (S p = nm q)) with
  | none => exact absurd (List.find?_eq_none.1 hf p (by simpa using hp)) (by simp [e])
  | some r =>
    have h1 := List.find?_some hf
    have h2 := List.mem_of_find?_eq_some hf
    exact ⟨by simpa using h2, by simpa using h1⟩
theorem Exch.inv_iff {S : Nat → ByteArray} (h : Exch S) {q p : Nat} (hq : q < 9) (hp : p < 9) : S p = nm q ↔ p = invI S q := by
  have h1 := h.inv hq
  exact ⟨fun e => h.inj hp h1.1 (e.trans h1.2.symm), fun e => by rw [e]; exact h1.2⟩
theorem invI_congr {S T : Nat → ByteArray} (h : ∀ p, p < 9 → S p = T p) (q : Nat) : invI S q = invI T q := by
  have key : ∀ l : List Nat, (∀ p ∈ l, p < 9) → l.find? (fun p => decide (S p = nm q)) = l.find? (fun p => decide (T p = nm q)) := by
    intro l
    induction l with
    | nil => intro _; rfl
    | cons a l ih =>
      intro hl
      rw [List.find?_cons, List.find?_cons, h a (hl a (by simp)), ih (fun p hp => hl p (by simp [hp]))]
  unfold invI
  rw [key _ (fun p hp => by simpa using hp)]

def bkF (f : Nat → ByteArray) : Nat → Nat → ByteArray
  | 0 => fun _ => emp
  | k + 1 => upd (bkF f k) (pidx (srcT f k)) (nm k)
theorem bkF_at {f : Nat → ByteArray} (h : Exch (srcT f)) : ∀ k, k ≤ 9 → ∀ p, p < k → bkF f k (pidx (srcT f p)) = nm p := by
  intro k
  induction k with
  | zero => intro _ p hp; omega
  | succ k ih =>
    intro hk p hp
    show upd (bkF f k) (pidx (srcT f k)) (nm k) (pidx (srcT f p)) = nm p
    unfold upd
    by_cases e : pidx (srcT f p) = pidx (srcT f k)
    · rw [if_pos e]
      have h1 := pidx_spec (h.place (p := p) (by omega))
      have h2 := pidx_spec (h.place (p := k) (by omega))
      have : srcT f p = srcT f k := by rw [← h1.2, ← h2.2, e]
      rw [h.inj (by omega) (by omega) this]
    · rw [if_neg e]
      rcases Nat.lt_or_ge p k with h1 | h1
      · exact ih (by omega) p h1
      · have : p = k := by omega
        subst this; exact absurd rfl e
theorem bkF_inv {f : Nat → ByteArray} (h : Exch (srcT f)) {q : Nat} (hq : q < 9) : srcT (bkF f 9) q = invF (srcT f) q := by
  have h1 := h.inv hq
  have h2 := bkF_at h 9 (Nat.le_refl _) _ h1.1
  rw [h1.2, pidx_nm hq] at h2
  show (if bkF f 9 q = emp then nm q else bkF f 9 q) = _
  rw [h2, if_neg (nm_ne _)]; rfl
def exchB (xs : List Mv) : Bool := mvalid xs && decide (leavesB xs = emp)
theorem exchB_iff {xs : List Mv} : exchB xs = true ↔ MV xs ∧ Exch (srcT (tabOf xs)) := by
  unfold exchB leavesB
  rw [Bool.and_eq_true, decide_eq_true_eq, leaf_exch]
  simp [mvalid]
theorem exchB_M {xs : List Mv} (h : exchB xs = true) : Exch fun p => srcM xs (nm p) := by
  obtain ⟨h1, h2⟩ := exchB_iff.1 h
  exact h2.congr fun p hp => srcT_M h1 hp
def undoM (xs : List Mv) : List Mv := if exchB xs then lsF (invF fun p => srcM xs (nm p)) 9 else []
theorem undoM_tab {xs : List Mv} (h : exchB xs = true) : mvT (noIdle (bkF (tabOf xs) 9)) (List.range 9) = undoM xs := by
  obtain ⟨h1, h2⟩ := exchB_iff.1 h
  rw [undoM, if_pos h, mvT_idle]
  refine lsF_congr fun q hq => ?_
  rw [bkF_inv h2 hq, invF, invF, invI_congr (fun p hp => srcT_M h1 hp)]
end Go.PM
namespace Go.PO
open Go.PM Go.RowKit Go.PW
section
variable {f : Nat → ByteArray} {s : Nat}
theorem wb_some (hf : SV f) (hs : s < 19) {i : Nat} (hi : i + 1 < (way (nxT f) s).length) : (way (nxT f) s)[i] < 9 ∧ sx f (way (nxT f) s)[i] = (way (nxT f) s)[i + 1] := by
  have hr := way_rho (nice hf) hs
  obtain ⟨a, t, e1, e2, e3⟩ := hr.step (j := i) hi
  rw [hr.some_ (j := i) (by omega)] at e1
  rw [hr.some_ (j := i + 1) hi] at e3
  obtain rfl := Option.some.inj e1
  obtain rfl := Option.some.inj e3
  have h9 := (nice hf).low _ _ e2
  refine ⟨h9, ?_⟩
  by_cases e : sx f (way (nxT f) s)[i] = (way (nxT f) s)[i]
  · rw [nxT_stay h9 e] at e2; cases e2
  · rw [nxT_some h9 e] at e2; exact Option.some.inj e2
theorem wb_zero (hf : SV f) (hs : s < 19) (h0 : 0 < (way (nxT f) s).length) : (way (nxT f) s)[0] = s := by
  have hr := way_rho (nice hf) hs
  have := hr.some_ h0
  exact (Option.some.inj this).symm
end
section
variable {nx : Nat → Option Nat}
theorem ringsF_in (hn : Nice nx) {q : Nat} (hq : q < 9) (hr : onRb nx q = true) : ∀ k, q < k → q ∈ (ringsF nx k).flatten := by
  intro k
  induction k with
  | zero => intro h; omega
  | succ k ih =>
    intro h
    by_cases hc : onRb nx k = true ∧ k ∉ (ringsF nx k).flatten
    · rw [ringsF_yes hc.1 hc.2, List.flatten_append, List.mem_append]
      rcases Nat.lt_or_ge q k with h1 | h1
      · exact .inl (ih h1)
      · right
        have : q = k := by omega
        subst this
        obtain ⟨l, hl⟩ := way_first nx q hn (by omega)
        simp [hl]
    · rw [ringsF_no hc]
      rcases Nat.lt_or_ge q k with h1 | h1
      · exact ih h1
      · have : q = k := by omega
        subst this
        exact Classical.not_not.1 fun hm => hc ⟨hr, hm⟩
theorem ringsF_mem2 : ∀ k, ∀ l ∈ ringsF nx k, ∃ s, s < k ∧ l = way nx s ∧ onRb nx s = true ∧ s ∉ (ringsF nx s).flatten := by
  intro k
  induction k with
  | zero => intro l h; simp [ringsF] at h
  | succ k ih =>
    intro l h
    by_cases hc : onRb nx k = true ∧ k ∉ (ringsF nx k).flatten
    · rw [ringsF_yes hc.1 hc.2, List.mem_append] at h
      rcases h with h | h
      · obtain ⟨s, h1, h2⟩ := ih l h; exact ⟨s, by omega, h2⟩
      · simp at h; exact ⟨k, by omega, h, hc⟩
    · rw [ringsF_no hc] at h
      obtain ⟨s, h1, h2⟩ := ih l h; exact ⟨s, by omega, h2⟩
theorem ring_next (hn : Nice nx) {s : Nat} (hs : s < 19) (hr : onRb nx s = true) {x y : Nat} (hx : x ∈ way nx s) (h : nx x = some y) : y ∈ way nx s := by
  have ho := way_rho hn hs
  have e := ho.onR.1 ((onRb_iff hn hs).1 hr)
  obtain ⟨j, hj⟩ := List.getElem?_of_mem hx
  have hjl := (List.getElem?_eq_some_iff.1 hj).1
  rw [ho.at_ j hjl] at hj
  have h2 : orb nx s (j + 1) = some y := by simp only [orb, hj, Option.bind_some]; exact h
  by_cases hl : j + 1 < (way nx s).length
  · rw [ho.some_ hl] at h2
    rw [← Option.some.inj h2]; exact List.getElem_mem hl
  · rw [show j + 1 = (way nx s).length by omega, e] at h2
    obtain rfl := Option.some.inj h2
    exact List.mem_of_getElem? (ho.at_ 0 ho.pos)
theorem ring_orb (hn : Nice nx) {s : Nat} (hs : s < 19) (hr : onRb nx s = true) {x : Nat} (hx : x ∈ way nx s) : ∀ k y, orb nx x k = some y → y ∈ way nx s := by
  intro k
  induction k with
  | zero => intro y h; simp only [orb, Option.some.injEq] at h; rw [← h]; exact hx
  | succ k ih =>
    intro y h
    simp only [orb, Option.bind_eq_some_iff] at h
    obtain ⟨z, h1, h2⟩ := h
    exact ring_next hn hs hr (ih z h1) h2
theorem ring_back (hn : Nice nx) {s : Nat} (hs : s < 19) (hr : onRb nx s = true) {x : Nat} (hx : x ∈ way nx s) : ∃ k, orb nx x k = some s := by
  have ho := way_rho hn hs
  have e := ho.onR.1 ((onRb_iff hn hs).1 hr)
  obtain ⟨j, hj⟩ := List.getElem?_of_mem hx
  have hjl := (List.getElem?_eq_some_iff.1 hj).1
  rw [ho.at_ j hjl] at hj
  refine ⟨(way nx s).length - j, ?_⟩
  have := orb_add (nx := nx) s j ((way nx s).length - j)
  rw [show j + ((way nx s).length - j) = (way nx s).length by omega, e, hj] at this
  exact this.symm

theorem ringsF_nodup (hn : Nice nx) : ∀ k, k ≤ 9 → (ringsF nx k).flatten.Nodup := by
  intro k
  induction k with
  | zero => intro _; simp [ringsF]
  | succ k ih =>
    intro hk
    by_cases hc : onRb nx k = true ∧ k ∉ (ringsF nx k).flatten
    · rw [ringsF_yes hc.1 hc.2, List.flatten_append, List.nodup_append]
      have hr := way_rho hn (show k < 19 by omega)
      refine ⟨ih (by omega), by simpa using hr.nodup, fun a ha b hb e => ?_⟩
      subst e
      have hb : a ∈ way nx k := by simpa using hb
      obtain ⟨l, hl, hal⟩ := List.mem_flatten.1 ha
      obtain ⟨s', hs', rfl, hr', _⟩ := ringsF_mem2 k l hl
      obtain ⟨m, hm⟩ := ring_back hn (show k < 19 by omega) hc.1 hb
      have := ring_orb hn (show s' < 19 by omega) hr' hal m k hm
      exact hc.2 (List.mem_flatten.2 ⟨_, hl, this⟩)
    · rw [ringsF_no hc]; exact ih (by omega)
structure RingQ (f : Nat → ByteArray) (r : List Nat) : Prop where
  two : 2 ≤ r.length
  low : ∀ i (h : i < r.length), r[i] < 9
  next : ∀ i (h : i < r.length), sx f r[i] = r[(i + 1) % r.length]'(Nat.mod_lt _ (by omega))
  nodup : r.Nodup
theorem ringQ (f : Nat → ByteArray) (hf : SV f) {r : List Nat} (h : r ∈ ringsF (nxT f) 9) : RingQ f r := by
  obtain ⟨s, hs, rfl, hr, hfr⟩ := ringsF_mem2 9 r h
  have hn := nice hf
  have hs19 : s < 19 := by omega
  have ho := way_rho hn hs19
  obtain ⟨i0, h1, h2, h3⟩ := ring_last hf hs19
  obtain ⟨h4, h5, h6⟩ := h3.1 hr
  have hall := ring_all hn hs19 ((onRb_iff hn hs19).1 hr)
  have h0 := wb_zero hf hs19 ho.pos
  refine ⟨h4, fun i hi => ring_low hn (hall _ (List.getElem_mem hi)), fun i hi => ?_, ho.nodup⟩
  by_cases hl : i + 1 < (way (nxT f) s).length
  · rw [(wb_some hf hs19 hl).2]
    congr 1
    exact (Nat.mod_eq_of_lt hl).symm
  · have he : i + 1 = (way (nxT f) s).length := by omega
    have h7 : (way (nxT f) s)[i] = i0 := by
      rw [show (way (nxT f) s).length - 1 = i by omega, List.getElem?_eq_getElem hi] at h1
      exact Option.some.inj h1
    rw [h7, h6]
    have h8 : (i + 1) % (way (nxT f) s).length = 0 := by rw [he, Nat.mod_self]
    simp only [h8]
    exact h0.symm
theorem exch_ring {f : Nat → ByteArray} (hf : SV f) (he : Exch (srcT f)) {p : Nat} (hp : p < 9) (h : srcT f p ≠ nm p) : onRb (nxT f) p = true := by
  have hn := nice hf
  have hs : p < 19 := by omega
  rw [onRb_iff hn hs]
  have ho := way_rho hn hs
  rw [ho.onR]
  have hlow : ∀ i, i < 9 → sx f i < 9 := fun i hi => by
    have h1 := he.place hi
    have h2 := isP_sidx (s := srcT f i) (by unfold isS; rw [h1]; rfl)
    rw [h1] at h2
    exact of_decide_eq_true h2.symm
  have hsrc : ∀ i, i < 9 → srcT f i = nm (sx f i) := fun i hi => by rw [← sn_nm _ (hlow i hi)]; exact (sx_lt hf hi).2.symm
  have hinj : ∀ i j, i < 9 → j < 9 → sx f i = sx f j → i = j := fun i j hi hj e => he.inj hi hj (by rw [hsrc i hi, hsrc j hj, e])
  have hgo : ∀ k, ∃ i, orb (nxT f) p k = some i ∧ i < 9 ∧ sx f i ≠ i := by
    intro k
    induction k with
    | zero => exact ⟨p, rfl, hp, fun e => h (by rw [hsrc p hp, e])⟩
    | succ k ih =>
      obtain ⟨i, h1, h2, h3⟩ := ih
      refine ⟨sx f i, ?_, hlow i h2, fun e => h3 (hinj _ _ (hlow i h2) h2 e)⟩
      simp only [orb, h1, Option.bind_some]
      exact nxT_some h2 h3
  rcases ho.last with h1 | ⟨mu, hmu, h1⟩
  · obtain ⟨i, h2, _⟩ := hgo (way (nxT f) p).length
    rw [h1] at h2; cases h2
  · rcases Nat.eq_zero_or_pos mu with h0 | h0
    · rw [h1, h0]; rfl
    · exfalso
      obtain ⟨m, rfl⟩ : ∃ m, mu = m + 1 := ⟨mu - 1, by omega⟩
      obtain ⟨n, hn2⟩ : ∃ n, (way (nxT f) p).length = n + 1 := ⟨(way (nxT f) p).length - 1, by omega⟩
      rw [hn2] at h1
      obtain ⟨i, e1, e2, e3⟩ := hgo m
      obtain ⟨j, e4, e5, e6⟩ := hgo n
      simp only [orb, e1, e4, Option.bind_some] at h1
      rw [nxT_some e2 e3, nxT_some e5 e6] at h1
      have := hinj _ _ e5 e2 (Option.some.inj h1)
      have := ho.inj (i := m) (j := n) (by omega) (by omega) (by rw [e1, e4, this])
      omega
end
end Go.PO
namespace Go.PS
open Go.PM Go.RowKit Go.PW

def tr (p q x : Nat) : Nat := if x = p then q else if x = q then p else x
def swp (g : Nat → Nat) (p q : Nat) : Nat → Nat := fun x => g (tr p q x)
theorem tr_tr (p q x : Nat) : tr p q (tr p q x) = x := by
  unfold tr
  by_cases h1 : x = p
  · subst h1
    by_cases h2 : q = x
    · subst h2; simp
    · simp [h2]
  · by_cases h2 : x = q
    · subst h2; simp [h1]
    · simp [h1, h2]
theorem tr_lt {p q x : Nat} (hp : p < 9) (hq : q < 9) (hx : x < 9) : tr p q x < 9 := by
  unfold tr; split
  · exact hq
  · split
    · exact hp
    · exact hx
theorem tr_left (p q : Nat) : tr p q p = q := by unfold tr; rw [if_pos rfl]
theorem tr_right (p q : Nat) : tr p q q = p := by
  unfold tr; split
  · next h => exact h
  · rw [if_pos rfl]
theorem tr_ne {p q x : Nat} (h1 : x ≠ p) (h2 : x ≠ q) : tr p q x = x := by unfold tr; rw [if_neg h1, if_neg h2]
structure Prm (g : Nat → Nat) : Prop where
  lt : ∀ q, q < 9 → g q < 9
  inj : ∀ q r, q < 9 → r < 9 → g q = g r → q = r
  sur : ∀ p, p < 9 → ∃ q, q < 9 ∧ g q = p
theorem Prm.swp {g : Nat → Nat} (h : Prm g) {p q : Nat} (hp : p < 9) (hq : q < 9) : Prm (swp g p q) := by
  refine ⟨fun x hx => h.lt _ (tr_lt hp hq hx), fun x y hx hy e => ?_, fun x hx => ?_⟩
  · have := h.inj _ _ (tr_lt hp hq hx) (tr_lt hp hq hy) e
    rw [← tr_tr p q x, this, tr_tr]
  · obtain ⟨y, hy, e⟩ := h.sur x hx
    exact ⟨tr p q y, tr_lt hp hq hy, by unfold PS.swp; rw [tr_tr]; exact e⟩
def hold (g : Nat → Nat) (p : Nat) : Nat := ((List.range 9).find? fun q => decide (g q = p)).getD 0
theorem Prm.hold {g : Nat → Nat} (h : Prm g) {p : Nat} (hp : p < 9) : hold g p < 9 ∧ g (hold g p) = p := by
  obtain ⟨q, hq, e⟩ := h.sur p hp
  unfold PS.hold
  cases hf : (List.range 9).find? (fun q => decide (g q = p)) with
  | none => exact absurd (List.find?_eq_none.1 hf q (by simpa using hq)) (by simp [e])
  | some r =>
    have h1 := List.find?_some hf
    have h2 := List.mem_of_find?_eq_some hf
    exact ⟨by simpa using h2, by simpa using h1⟩
theorem Prm.hold_iff {g : Nat → Nat} (h : Prm g) {p q : Nat} (hp : p < 9) (hq : q < 9) : g q = p ↔ PS.hold g p = q := by
  have h1 := h.hold hp
  exact ⟨fun e => h.inj _ _ h1.1 hq (h1.2.trans e.symm), fun e => by rw [← e]; exact h1.2⟩
theorem filter_less {α : Type _} {P Q : α → Bool} : ∀ {l : List α}, (∀ x ∈ l, P x = true → Q x = true) → (∃ x ∈ l, Q x = true ∧ P x = false) → (l.filter P).length + 1 ≤ (l.filter Q).length
  | [], _, ⟨x, hx, _⟩ => by cases hx
  | a :: l, h, ⟨x, hx, h1, h2⟩ => by
    have hle : (l.filter P).length ≤ (l.filter Q).length := by
      clear hx h1 h2
      have h' : ∀ x ∈ l, P x = true → Q x = true := fun x hx => h x (List.mem_cons_of_mem _ hx)
      clear h
      induction l with
      | nil => simp
      | cons b l ih =>
        have ih := ih (fun x hx => h' x (List.mem_cons_of_mem _ hx))
        have hb := h' b (List.mem_cons_self ..)
        rw [List.filter_cons, List.filter_cons]
        rcases Bool.eq_false_or_eq_true (P b) with h3 | h3
        · rw [if_pos h3, if_pos (hb h3)]; simpa using ih
        · rw [if_neg (by rw [h3]; decide)]
          split
          · simp only [List.length_cons]; omega
          · exact ih
    rw [List.filter_cons, List.filter_cons]
    rcases List.mem_cons.1 hx with rfl | hx
    · rw [if_neg (by rw [h2]; decide), if_pos h1]
      simp only [List.length_cons]; omega
    · have ih := filter_less (fun x hx => h x (List.mem_cons_of_mem _ hx)) ⟨x, hx, h1, h2⟩
      have ha := h a (List.mem_cons_self ..)
      rcases Bool.eq_false_or_eq_true (P a) with h3 | h3
      · rw [if_pos h3, if_pos (ha h3)]
        simp only [List.length_cons]; omega
      · rw [if_neg (by rw [h3]; decide)]
        split
        · simp only [List.length_cons]; omega
        · exact ih
def muG (g : Nat → Nat) : Nat := ((List.range 9).filter fun x => decide (g x ≠ x)).length
theorem muG_le (g : Nat → Nat) : muG g ≤ 9 := by
  have := List.length_filter_le (fun x => decide (g x ≠ x)) (List.range 9)
  simpa [muG] using this
theorem muG_step {g : Nat → Nat} (h : Prm g) {p : Nat} (hp : p < 9) (hne : hold g p ≠ p) : muG (swp g p (hold g p)) + 1 ≤ muG g := by
  have h1 := h.hold hp
  refine filter_less (fun x hx h2 => ?_) ⟨p, by simpa using hp, ?_, ?_⟩
  · rw [decide_eq_true_eq] at h2 ⊢
    intro e
    by_cases e1 : x = p
    · subst e1
      have := (h.hold_iff hp hp).1 e
      exact hne this
    · by_cases e2 : x = hold g p
      · rw [e2] at e; rw [h1.2] at e; exact hne e.symm
      · apply h2
        show g (tr p (hold g p) x) = x
        rw [tr_ne e1 e2]; exact e
  · rw [decide_eq_true_eq]; exact fun e => hne ((h.hold_iff hp hp).1 e)
  · rw [decide_eq_false_iff_not, Classical.not_not]
    show g (tr p (hold g p) p) = p
    rw [tr_left]; exact h1.2
def rsW : Nat → (Nat → Nat) → Nat → List (Nat × Nat) × (Nat → Nat)
  | 0, g, _ => ([], g)
  | n + 1, g, p => if hold g p = p then ([], g) else ((p, hold g p) :: (rsW n (swp g p (hold g p)) (hold g p)).1, (rsW n (swp g p (hold g p)) (hold g p)).2)
theorem rsW_stop (n : Nat) {g : Nat → Nat} {p : Nat} (h : hold g p = p) : rsW n g p = ([], g) := by
  cases n with
  | zero => rfl
  | succ n => rw [rsW, if_pos h]
theorem rsW_go (n : Nat) {g : Nat → Nat} {p : Nat} (h : hold g p ≠ p) : rsW (n + 1) g p = ((p, hold g p) :: (rsW n (swp g p (hold g p)) (hold g p)).1, (rsW n (swp g p (hold g p)) (hold g p)).2) := by
  rw [rsW, if_neg h]
def rsA : Nat → (Nat → Nat) → List (Nat × Nat) × (Nat → Nat)
  | 0, g => ([], g)
  | k + 1, g => ((rsA k g).1 ++ (rsW 9 (rsA k g).2 k).1, (rsW 9 (rsA k g).2 k).2)
theorem rsW_prm : ∀ (n : Nat) (g : Nat → Nat) (p : Nat), Prm g → p < 9 → Prm (rsW n g p).2
  | 0, _, _, h, _ => h
  | n + 1, g, p, h, hp => by
    by_cases e : hold g p = p
    · rw [rsW_stop _ e]; exact h
    · rw [rsW_go _ e]
      have h1 := h.hold hp
      exact rsW_prm n _ _ (h.swp hp h1.1) h1.1
theorem rsA_prm {g : Nat → Nat} (h : Prm g) : ∀ k, k ≤ 9 → Prm (rsA k g).2
  | 0, _ => h
  | k + 1, hk => rsW_prm 9 _ k (rsA_prm h k (by omega)) (by omega)
theorem rsW_len : ∀ (n : Nat) (g : Nat → Nat) (p : Nat), Prm g → p < 9 → (rsW n g p).1.length + muG (rsW n g p).2 ≤ muG g
  | 0, g, p, _, _ => by simp [rsW]
  | n + 1, g, p, h, hp => by
    by_cases e : hold g p = p
    · rw [rsW_stop _ e]; simp
    · rw [rsW_go _ e]
      have h1 := h.hold hp
      have h2 := rsW_len n _ _ (h.swp hp h1.1) h1.1
      have h3 := muG_step h hp e
      simp only [List.length_cons]; omega
theorem rsA_len {g : Nat → Nat} (h : Prm g) : ∀ k, k ≤ 9 → (rsA k g).1.length + muG (rsA k g).2 ≤ muG g
  | 0, _ => by simp [rsA]
  | k + 1, hk => by
    have h1 := rsA_len h k (by omega)
    have h2 := rsW_len 9 _ k (rsA_prm h k (by omega)) (by omega)
    simp only [rsA, List.length_append]; omega
theorem rsA_le {g : Nat → Nat} (h : Prm g) (k : Nat) (hk : k ≤ 9) : (rsA k g).1.length ≤ 9 := by
  have := rsA_len h k hk
  have := muG_le g
  omega

def prs : List Nat → List (Nat × Nat)
  | a :: b :: l => (a, b) :: prs (b :: l)
  | _ => []
def Chn (g : Nat → Nat) (e : Nat) : Nat → List Nat → Prop
  | a, [] => a = e
  | a, b :: l => g b = a ∧ Chn g e b l
theorem Chn.congr {g g' : Nat → Nat} {e : Nat} : ∀ {l : List Nat} {a : Nat}, (∀ x ∈ l, g x = g' x) → Chn g e a l → Chn g' e a l
  | [], _, _, h => h
  | b :: l, a, he, h => ⟨by rw [← he b (by simp)]; exact h.1, h.2.congr fun x hx => he x (by simp [hx])⟩
theorem Chn.last {g : Nat → Nat} {e : Nat} : ∀ {l : List Nat} {a : Nat}, Chn g e a l → e ∈ a :: l
  | [], a, h => by rw [show a = e from h]; simp
  | b :: l, a, h => List.mem_cons_of_mem _ h.2.last
theorem rsW_chain : ∀ (l : List Nat) (n : Nat) (g : Nat → Nat) (a e : Nat), Prm g → (a :: l).Nodup → (∀ x ∈ a :: l, x < 9) → Chn g e a l → g a = e → l.length ≤ n →
    (rsW n g a).1 = prs (a :: l) ∧ ∀ x, x < 9 → (rsW n g a).2 x = if x ∈ a :: l then x else g x
  | [], n, g, a, e, h, _, hlt, hc, he, _ => by
    have ha := hlt a (by simp)
    have hg : g a = a := he.trans (show a = e from hc).symm
    have hh : hold g a = a := (h.hold_iff ha ha).1 hg
    rw [rsW_stop _ hh]
    refine ⟨rfl, fun x _ => ?_⟩
    by_cases hx : x = a
    · subst hx; simp [hg]
    · simp [hx]
  | b :: l, n, g, a, e, h, hn, hlt, hc, he, hl => by
    obtain ⟨n, rfl⟩ : ∃ m, n = m + 1 := ⟨n - 1, by simp only [List.length_cons] at hl; omega⟩
    have ha := hlt a (by simp)
    have hb := hlt b (by simp)
    rw [List.nodup_cons] at hn
    have hab : b ≠ a := fun e => hn.1 (by rw [← e]; simp)
    have hh : hold g a = b := (h.hold_iff ha hb).1 hc.1
    rw [rsW_go n (by rw [hh]; exact hab), hh]
    have hnb := (List.nodup_cons.1 hn.2).1
    have hc2 : Chn (swp g a b) e b l := hc.2.congr fun x hx => by
      show g x = g (tr a b x)
      rw [tr_ne (fun e => hn.1 (by rw [← e]; simp [hx])) (fun e => hnb (by rw [← e]; exact hx))]
    have he2 : swp g a b b = e := by show g (tr a b b) = e; rw [tr_right]; exact he
    obtain ⟨h1, h2⟩ := rsW_chain l n (swp g a b) b e (h.swp ha hb) hn.2 (fun x hx => hlt x (List.mem_cons_of_mem _ hx)) hc2 he2 (by simp only [List.length_cons] at hl; omega)
    refine ⟨by rw [h1]; rfl, fun x hx => ?_⟩
    rw [h2 x hx]
    by_cases hxl : x ∈ b :: l
    · rw [if_pos hxl, if_pos (List.mem_cons_of_mem _ hxl)]
    · rw [if_neg hxl]
      by_cases hxa : x = a
      · subst hxa
        rw [if_pos (by simp)]
        show g (tr x b x) = x
        rw [tr_left]; exact hc.1
      · rw [if_neg (by rw [List.mem_cons]; exact fun h => h.elim hxa hxl)]
        show g (tr a b x) = g x
        rw [tr_ne hxa (fun e => hxl (by rw [e]; simp))]
theorem chn_of {g : Nat → Nat} : ∀ (l : List Nat) (a : Nat), (∀ i (h : i + 1 < (a :: l).length), g (a :: l)[i + 1] = (a :: l)[i]) → ∃ e, Chn g e a l ∧ (a :: l)[l.length]? = some e
  | [], a, _ => ⟨a, rfl, rfl⟩
  | b :: l, a, h => by
    obtain ⟨e, h1, h2⟩ := chn_of l b fun i hi => by
      have := h (i + 1) (by simp only [List.length_cons] at hi ⊢; omega)
      simpa using this
    exact ⟨e, ⟨by have := h 0 (by simp); simpa using this, h1⟩, by simpa using h2⟩

section
variable {f : Nat → ByteArray}
theorem inv_prm (he : Exch (srcT f)) : Prm (invI (srcT f)) := by
  refine ⟨fun q hq => (he.inv hq).1, fun q r hq hr e => ?_, fun p hp => ?_⟩
  · have h1 := (he.inv hq).2
    have h2 := (he.inv hr).2
    rw [e, h2] at h1
    exact (nm_inj hr hq h1).symm
  · have h1 := pidx_spec (he.place hp)
    exact ⟨pidx (srcT f p), h1.1, ((he.inv_iff h1.1 hp).1 h1.2.symm).symm⟩
theorem exch_sx (hf : SV f) (he : Exch (srcT f)) {p : Nat} (hp : p < 9) : sx f p < 9 ∧ srcT f p = nm (sx f p) ∧ invI (srcT f) (sx f p) = p := by
  have h1 := he.place hp
  have h2 := isP_sidx (s := srcT f p) (by unfold isS; rw [h1]; rfl)
  rw [h1] at h2
  have h3 : sx f p < 9 := of_decide_eq_true h2.symm
  have h4 : srcT f p = nm (sx f p) := by rw [← sn_nm _ h3]; exact (sx_lt hf hp).2.symm
  exact ⟨h3, h4, ((he.inv_iff h3 hp).1 h4).symm⟩
theorem exch_fix (hf : SV f) (he : Exch (srcT f)) {p : Nat} (hp : p < 9) : invI (srcT f) p = p ↔ sx f p = p := by
  constructor
  · intro e
    have h1 := (he.inv hp).2
    rw [e] at h1
    have h2 := exch_sx hf he hp
    exact nm_inj h2.1 hp (h2.2.1.symm.trans h1)
  · intro e
    have h2 := exch_sx hf he hp
    rw [e] at h2; exact h2.2.2
theorem rsA_rings (hf : SV f) (he : Exch (srcT f)) : ∀ k, k ≤ 9 → (rsA k (invI (srcT f))).1 = (ringsF (nxT f) k).flatMap prs ∧
    ∀ x, x < 9 → (rsA k (invI (srcT f))).2 x = if x ∈ (ringsF (nxT f) k).flatten then x else invI (srcT f) x
  | 0, _ => ⟨rfl, fun x _ => by simp [ringsF, rsA]⟩
  | k + 1, hk => by
    obtain ⟨h1, h2⟩ := rsA_rings hf he k (by omega)
    have hn := nice hf
    have hk9 : k < 9 := by omega
    have hP := inv_prm he
    have hPk := rsA_prm hP k (by omega)
    by_cases hc : onRb (nxT f) k = true ∧ k ∉ (ringsF (nxT f) k).flatten
    · -- a ring begins here
      have hmem : way (nxT f) k ∈ ringsF (nxT f) (k + 1) := by rw [ringsF_yes hc.1 hc.2]; simp
      have hq : PO.RingQ f (way (nxT f) k) := by
        have hsub : ∀ m, k + 1 ≤ m → way (nxT f) k ∈ ringsF (nxT f) m := by
          intro m
          induction m with
          | zero => intro h; omega
          | succ m ih =>
            intro h
            rcases Nat.lt_or_ge m (k + 1) with h3 | h3
            · have : m = k := by omega
              subst this; exact hmem
            · by_cases hc2 : onRb (nxT f) m = true ∧ m ∉ (ringsF (nxT f) m).flatten
              · rw [ringsF_yes hc2.1 hc2.2]; exact List.mem_append_left _ (ih h3)
              · rw [ringsF_no hc2]; exact ih h3
        exact PO.ringQ f hf (hsub 9 hk)
      have hdis : ∀ x ∈ way (nxT f) k, x ∉ (ringsF (nxT f) k).flatten := fun x hx hx2 => by
        have := PO.ringsF_nodup hn (k + 1) hk
        rw [ringsF_yes hc.1 hc.2, List.flatten_append, List.nodup_append] at this
        exact this.2.2 x hx2 x (by simpa using hx) rfl
      obtain ⟨l, hl⟩ := way_first (nxT f) k hn (by omega)
      rw [hl] at hq hdis
      have hlow : ∀ x ∈ k :: l, x < 9 := fun x hx => by
        obtain ⟨i, hi⟩ := List.getElem?_of_mem hx
        have hil := (List.getElem?_eq_some_iff.1 hi).1
        rw [List.getElem?_eq_getElem hil] at hi
        rw [← Option.some.inj hi]; exact hq.low i hil
      have hgo : ∀ x ∈ k :: l, (rsA k (invI (srcT f))).2 x = invI (srcT f) x := fun x hx => by
        rw [h2 x (hlow x hx), if_neg (hdis x hx)]
      obtain ⟨e, hce, hlast⟩ := chn_of (g := (rsA k (invI (srcT f))).2) l k fun i hi => by
        rw [hgo _ (List.getElem_mem hi)]
        have h3 := hq.next i (by omega)
        have h4 : (i + 1) % (k :: l).length = i + 1 := Nat.mod_eq_of_lt hi
        simp only [h4] at h3
        rw [← h3]
        exact (exch_sx hf he (hq.low i (by omega))).2.2
      have hcl : (rsA k (invI (srcT f))).2 k = e := by
        rw [hgo k (by simp)]
        have h3 := hq.next l.length (by simp)
        have h4 : (l.length + 1) % (k :: l).length = 0 := by simp
        simp only [h4, List.getElem_cons_zero] at h3
        have h5 : (k :: l)[l.length]'(by simp) = e := by
          rw [List.getElem?_eq_getElem (by simp)] at hlast
          exact Option.some.inj hlast
        rw [h5] at h3
        rw [← h3]
        exact (exch_sx hf he (by rw [← h5]; exact hlow _ (List.getElem_mem _))).2.2
      have hlen : l.length ≤ 9 := by
        have := PW.nodup_le (k :: l) 9 hq.nodup hlow
        simp only [List.length_cons] at this; omega
      obtain ⟨c1, c2⟩ := rsW_chain l 9 _ k e hPk hq.nodup hlow hce hcl hlen
      rw [ringsF_yes hc.1 hc.2, hl]
      refine ⟨by simp only [rsA]; rw [c1, h1]; simp, fun x hx => ?_⟩
      show (rsW 9 (rsA k (invI (srcT f))).2 k).2 x = _
      rw [c2 x hx, h2 x hx]
      simp only [List.flatten_append, List.mem_append, List.flatten_cons, List.flatten_nil, List.append_nil]
      by_cases hx1 : x ∈ k :: l
      · rw [if_pos hx1, if_pos (.inr hx1)]
      · by_cases hx2 : x ∈ (ringsF (nxT f) k).flatten
        · rw [if_neg hx1, if_pos hx2, if_pos (.inl hx2)]
        · rw [if_neg hx1, if_neg hx2, if_neg (fun h => h.elim hx2 hx1)]
    · have hfix : (rsA k (invI (srcT f))).2 k = k := by
        rw [h2 k hk9]
        split
        · rfl
        · next hno =>
          have hnr : ¬ onRb (nxT f) k = true := fun h => hc ⟨h, hno⟩
          have : srcT f k = nm k := Classical.not_not.1 fun hne => hnr (PO.exch_ring hf he hk9 hne)
          exact (exch_fix hf he hk9).2 ((src_self hf hk9).1 this)
      have hh := (hPk.hold_iff hk9 hk9).1 hfix
      rw [ringsF_no hc]
      refine ⟨by simp only [rsA]; rw [rsW_stop _ hh, h1]; simp, fun x hx => ?_⟩
      show (rsW 9 (rsA k (invI (srcT f))).2 k).2 x = _
      rw [rsW_stop _ hh]; exact h2 x hx
theorem rsA_id (hf : SV f) (he : Exch (srcT f)) : ∀ x, x < 9 → (rsA 9 (invI (srcT f))).2 x = x := fun x hx => by
  rw [(rsA_rings hf he 9 (Nat.le_refl _)).2 x hx]
  split
  · rfl
  · next hno =>
    refine (exch_fix hf he hx).2 ((src_self hf hx).1 (Classical.not_not.1 fun hne => hno ?_))
    exact PO.ringsF_in (nice hf) hx (PO.exch_ring hf he hx hne) 9 hx
end
end Go.PS
namespace Go.PS
open Go.PM Go.RowKit Go.PW

def appS (ps : List (Nat × Nat)) (g : Nat → Nat) : Nat → Nat := ps.foldl (fun g p => swp g p.1 p.2) g
theorem appS_app (ps qs : List (Nat × Nat)) (g : Nat → Nat) : appS (ps ++ qs) g = appS qs (appS ps g) := by unfold appS; rw [List.foldl_append]
def okP (ps : List (Nat × Nat)) : Prop := ∀ p ∈ ps, p.1 < 9 ∧ p.2 < 9 ∧ p.1 ≠ p.2
theorem okP_app {ps qs : List (Nat × Nat)} (h1 : okP ps) (h2 : okP qs) : okP (ps ++ qs) := fun p hp => (List.mem_append.1 hp).elim (h1 p) (h2 p)
theorem rsW_app : ∀ (n : Nat) (g : Nat → Nat) (p : Nat), Prm g → p < 9 → appS (rsW n g p).1 g = (rsW n g p).2 ∧ okP (rsW n g p).1
  | 0, _, _, _, _ => ⟨rfl, by simp [okP, rsW]⟩
  | n + 1, g, p, h, hp => by
    by_cases e : hold g p = p
    · rw [rsW_stop _ e]; exact ⟨rfl, by simp [okP]⟩
    · rw [rsW_go _ e]
      have h1 := h.hold hp
      obtain ⟨h2, h3⟩ := rsW_app n _ _ (h.swp hp h1.1) h1.1
      refine ⟨h2, fun q hq => ?_⟩
      rcases List.mem_cons.1 hq with rfl | hq
      · exact ⟨hp, h1.1, fun e2 => e e2.symm⟩
      · exact h3 q hq
theorem rsA_app {g : Nat → Nat} (h : Prm g) : ∀ k, k ≤ 9 → appS (rsA k g).1 g = (rsA k g).2 ∧ okP (rsA k g).1
  | 0, _ => ⟨rfl, by simp [okP, rsA]⟩
  | k + 1, hk => by
    obtain ⟨h1, h2⟩ := rsA_app h k (by omega)
    obtain ⟨h3, h4⟩ := rsW_app 9 _ k (rsA_prm h k (by omega)) (by omega)
    refine ⟨?_, okP_app h2 h4⟩
    show appS ((rsA k g).1 ++ _) g = _
    rw [appS_app, h1, h3]; rfl

section
variable {f : Nat → ByteArray}
theorem prs_len : ∀ l : List Nat, (prs l).length = l.length - 1
  | [] => rfl
  | [_] => rfl
  | a :: b :: l => by
    have := prs_len (b :: l)
    simp only [prs, List.length_cons] at this ⊢; omega
theorem prs_count : ∀ rs : List (List Nat), (∀ r ∈ rs, 1 ≤ r.length) → (rs.flatMap prs).length + rs.length = rs.flatten.length
  | [], _ => rfl
  | r :: rs, h => by
    have h1 := prs_count rs fun x hx => h x (by simp [hx])
    have h2 := h r (by simp)
    rw [List.flatMap_cons, List.length_append, prs_len, List.length_cons, List.flatten_cons, List.length_append]
    omega
theorem rings_pos (hf : SV f) : ∀ r ∈ ringsF (nxT f) 9, 1 ≤ r.length := fun r hr => by have := (PO.ringQ f hf hr).two; omega
end
end Go.PS
namespace Go.PM
open Go.RowKit
end Go.PM
namespace Go.Proofs.YtfedloljhocpgaaGreatDoor
open Go.RowKit Go.PM
attribute [local go_sem] Oper.semAt_some

end Go.Proofs.YtfedloljhocpgaaGreatDoor
namespace Go.PM
open Go.RowKit
def mixG (h f : Nat → ByteArray) (k : Nat) : Nat → ByteArray := fun q => if q < k then h q else f q
theorem mixG_zero (h f : Nat → ByteArray) : mixG h f 0 = f := by funext q; simp [mixG]
theorem mixG_at (h f : Nat → ByteArray) (k : Nat) : mixG h f k k = f k := by simp [mixG]
theorem mixG_set (h f : Nat → ByteArray) (k : Nat) (hk : k < 9) : (tabA (mixG h f k)).setIfInBounds k (.string (h k)) = tabA (mixG h f (k + 1)) := by
  have h1 := tabC_set (mixG h f k) k hk (h k)
  have e : (fun q => if q = k then h k else mixG h f k q) = mixG h f (k + 1) := by
    funext q
    by_cases hq : q = k
    · subst hq; simp [mixG]
    · by_cases h2 : q < k
      · simp [mixG, hq, h2, Nat.lt_succ_of_lt h2]
      · have : ¬ q < k + 1 := by omega
        simp [mixG, hq, h2, this]
  rw [e] at h1
  exact h1
theorem mixG_same (h f : Nat → ByteArray) (k : Nat) (e : h k = f k) : mixG h f (k + 1) = mixG h f k := by
  funext q
  by_cases hq : q = k
  · subst hq; simp [mixG, e]
  · by_cases h2 : q < k
    · simp [mixG, h2, Nat.lt_succ_of_lt h2]
    · have : ¬ q < k + 1 := by omega
      simp [mixG, h2, this]
theorem tabC_all (f : Nat → ByteArray) : (tabC f).all (·.oneCell') = true := by simp [tabC, Value.oneCell']
end Go.PM
namespace Go.Proofs.YtfedloljhocpgaaGreatDoor
open Go.RowKit Go.PM Go.Lib
attribute [local go_sem] Oper.semAt_some

end Go.Proofs.YtfedloljhocpgaaGreatDoor
namespace Go.Proofs.YtfedloljhocpgaaGreatDoor
open Go.RowKit Go.PM Go.Lib
attribute [local go_sem] Oper.semAt_some

set_option maxRecDepth 100000 in
set_option maxHeartbeats 4000000 in
theorem idle_c (f : Nat → ByteArray) (w : World) :
    Calls Tryz.prog 44 #[tabX f] w fun e w' => e = .returned (tabX (mixG (noIdle f) f 9)) ∧ Below w.heap.size w w' := by
  refine (callsIn_wide (n := 5)).1 ?_
  refine callsIn_of_wp_marks Tryz.func44 rfl trivial ?_ rfl
  simp only [Tryz.ntmps44, List.size_toArray, List.length_cons, List.length_nil, Nat.reduceAdd, Nat.reduceSub, Array.replicate_succ, Array.replicate_zero, List.push_toArray, List.append_toArray, List.nil_append, List.cons_append]
  gi_wp2
  refine range_law (F := Fence.wide) (gf := 56) (lf := #[.int .i64 9]) (lb := #[]) rfl (by decide) rfl trivial (fun args w => rfl) (encs := fun p : Nat => #[.int .i64 p]) (xs := List.range 9)
    (below_iter _ _ trivial rfl (by decide)) (fun _ => rfl)
    (fun pre W => At W w.heap.size 65 (tabA (mixG (noIdle f) f pre.length)) ∧ At W (w.heap.size + 1) 65 zA ∧ Below w.heap.size w W)
    (fun _ _ _ => False) ?_ (fun _ => ownFrom_pure _ _) ?_ (fun p => { tmps := #[tabX f, .pointer (some ⟨w.heap.size, 0, none⟩), .pointer (some ⟨w.heap.size + 1, 0, none⟩), .int .i64 p, .func (.func 56) #[.int .i64 9] #[], .int .i64 p, undef, undef, undef, undef, undef, undef, undef, undef, undef], defers := [] }) ?_ ?_ ?_ ?_
  · rintro s A A' row ⟨h1, h2, h3⟩ hg hr
    have hr' : ∀ r, row = some r → w.heap.size + 2 ≤ r := fun r e => by have := (hr r e).1; simp only [World.size_alloc] at this; omega
    refine ⟨(hg.block _ h1.lt (fun e => ?_)).trans h1, (hg.block _ h2.lt (fun e => ?_)).trans h2, h3.trans (below_grown hg h3.size (fun g e => ?_))⟩
    · have := hr' _ e.symm; omega
    · have := hr' _ e.symm; omega
    · have := hr' _ e; omega
  · refine ⟨?_, ?_, ?_⟩
    · rw [List.length_nil, mixG_zero]
      exact (At.new w _ _).alloc _
    · have := At.new (w.alloc (.cells (tabA f) 65)) 65 zA
      rwa [World.size_alloc] at this
    · exact ((Below.refl _ _).alloc (Nat.le_refl _) _).alloc (by simp [World.size_alloc]) _
  · intro l p W Kc hK
    gi_wp2
    exact hK
  · rintro l pre p W ⟨h1, h2, h3⟩ hp hsz
    obtain ⟨hl, hp9⟩ := pre_len pre p hp
    rw [hl] at h1
    have HL : Hid ((pre ++ [p]).length = p + 1) := by show _ = _; simp [hl]
    have HMS := Lib.hid (mixG_set (noIdle f) f p hp9)
    have HSM := Lib.hid (mixG_same (noIdle f) f p)
    have HNI : Hid (noIdle f p = if f p = nm p then emp else f p) := rfl
    clear hl
    have hpc : (tabA (mixG (noIdle f) f p))[p]? = some (.string (f p)) := by rw [← mixG_at (noIdle f) f p]; exact tabC_at _ p hp9
    have hnm := fun W' => name_c p hp9 W'
    generalize hgm : mixG (noIdle f) f p = g' at *
    have i0 : (0 : Int) ≤ (p : Int) := by omega
    have i1 : (p : Int) < 9 := by omega
    have kl := h1.lt
    have kf : W.drew.frozen? ⟨w.heap.size, p, none⟩ = false := h1.frozen p
    have kc : W.drew.cell? ⟨w.heap.size, p, none⟩ = some (.string (f p)) := (h1.cell p).trans hpc
    generalize nm p = q at *
    generalize f p = s at *
    rcases Bool.eq_false_or_eq_true (s.toList == q.toList) with hd | hd
    all_goals
      have hd' := hd
      rw [beq_str] at hd'
      have HD := Lib.hid hd'
      clear hd'
      gi_wp2
      refine region_quiet_inRound (F := Fence.wide) (C := fun w' => w' = W.drew) rfl (by kernel_rfl) (by kernel_rfl) (by kernel_rfl) rfl ?_
      simp only
      gi_big_quiet_step (fail)
      gi_big_quiet_step (fail)
      gi_big_quiet_step (fail)
      gi_big_quiet_step (fail)
      refine BigFrame.wpQuietIn_want (fun _ _ _ _ => trivial) rfl (fun K hK => ?_)
      gi_big_quiet_op
      refine ⟨_, callsIn_wide.2 ((hnm _).mono (fun e w' h => ⟨h.1, h.2.symm⟩)), hK _ ?_⟩
      clear hK K
      gi_big_quiet_step (fail)
      refine wpQuietIn_nil ?_
      intro w' hw'
      subst hw'
      gi_wp2
    · have hs : s = q := by have := HD.out; rwa [decide_eq_true_eq] at this
      refine ⟨(KeepsNew.drew W).from.trans ((KeepsOthers.setCell _ _ _).from _), KeepsIn.zero (by simp [World.size_setCell]), ?_, At.far (w := W.drew) h2 (by simp) _, Below.setCell (w := W.drew) h3.drew (by show w.heap.size ≤ w.heap.size; omega) _⟩
      rw [HL.out, ← HMS.out, HNI.out, if_pos hs]
      exact At.set (w := W.drew) h1 p _
    · have hs : ¬ s = q := by have := HD.out; rwa [decide_eq_false_iff_not] at this
      refine ⟨(KeepsNew.drew W).from, KeepsIn.zero (Nat.le_refl _), ?_, h2, h3.drew⟩
      rw [HL.out, HSM.out (by rw [HNI.out, if_neg hs])]
      exact h1
  · intro D W hD hI hd
    obtain ⟨h1, h2, h3⟩ := hI
    replace h1 : At W (w.heap.size) 65 (tabC (mixG (noIdle f) f 9)) := h1
    have hl1 := h1.lt
    have hl2 := h2.lt
    have hDD : w.heap.size + 2 ≤ D := by first | omega | simpa [World.size_alloc, Nat.add_assoc] using hD
    generalize hg9 : mixG (noIdle f) f 9 = g9 at *
    have HG9 := Lib.hid hg9
    clear hg9
    gi_wp2_with (first | (refine ldIn_row rfl 65 (.tmp 1) rfl (w.heap.size) 65 (tabC g9) h1 (by rfl) 9 9 Tryz.underlying65 (by kernel_rfl) ?_) | (refine stIn_row rfl 65 (.tmp 2) (.tmp 14) rfl rfl (w.heap.size + 1) 65 zA (tabC g9) h2 (by rfl) (by rfl) (by kernel_rfl) rfl (tabC_all _) ?_; intro W6 hA6 hg6))
    have d6 : W6.heap[D]? = some (.deferred (some [])) := (hg6.block D (Array.getElem?_eq_some_iff.1 hd).1 (by simp; omega)).trans hd
    have bel : Below w.heap.size w W6 := h3.trans (below_grown hg6 h3.size (fun g hg => by cases hg; omega))
    simp only [Act.put, List.setIfInBounds_toArray, List.set_cons_succ, List.set_cons_zero]
    have fin : LeavesInM Fence.wide 5 Tryz.prog Tryz.f44 #[tabX f, .pointer (some ⟨w.heap.size, 0, none⟩), .pointer (some ⟨w.heap.size + 1, 0, none⟩), undef, .func (.func 56) #[.int .i64 9] #[], undef, undef, undef, undef, undef, undef, undef, undef, undef, .agg (tabC g9)]
        (fun e w' => e = Ending.returned (tabX (mixG (noIdle f) f 9)) ∧ Below w.heap.size w w') [] .returning (W6.putObj D (.deferred none)) := by
      exact ⟨_, results_row1 Tryz.results44 _ _ (w.heap.size + 1) 65 (tabC g9) (by rfl) ((World.putObj_heap_other (by omega)).trans hA6) 9 9 Tryz.underlying65 (by kernel_rfl), by rw [HG9.out]; rfl, bel.trans ⟨rfl, rfl, rfl, by simp [World.putObj], fun k hk => World.putObj_heap_other (by omega)⟩⟩
    exact ⟨by simp, .inl ⟨D, _, rfl, run_takeDeferred d6, fin⟩⟩
  · intro _ _ _ _ _ _ hf
    exact hf.elim
end Go.Proofs.YtfedloljhocpgaaGreatDoor
namespace Go.Proofs.YtfedloljhocpgaaGreatDoor
open Go.RowKit Go.PM Go.Lib
attribute [local go_sem] Oper.semAt_some

set_option maxRecDepth 100000 in
set_option maxHeartbeats 4000000 in
theorem undone_c (f : Nat → ByteArray) (hE : Exch (srcT f)) (w : World) :
    Calls Tryz.prog 51 #[tabX f] w fun e w' => e = .returned (tabX (bkF f 9)) ∧ Below w.heap.size w w' := by
  refine (callsIn_wide (n := 5)).1 ?_
  refine callsIn_of_wp_marks Tryz.func51 rfl trivial ?_ rfl
  simp only [Tryz.ntmps51, List.size_toArray, List.length_cons, List.length_nil, Nat.reduceAdd, Nat.reduceSub, Array.replicate_succ, Array.replicate_zero, List.push_toArray, List.append_toArray, List.nil_append, List.cons_append]
  gi_wp2
  obtain ⟨W0, hW0⟩ : ∃ W0 : World, W0 = ((w.alloc (.cells (tabA f) 65)).alloc (.cells zA 65)).alloc (.cells zA 65) := ⟨_, rfl⟩
  have hS0 : W0.heap.size = w.heap.size + 3 := by rw [hW0]; simp only [World.size_alloc]
  have hB0 : Below w.heap.size w W0 := by rw [hW0]; (repeat' (first | (with_reducible exact Below.refl _ _) | (with_reducible assumption) | (with_reducible refine Below.alloc ?_ ?_ _) | (with_reducible refine Below.drew ?_) | (with_reducible refine Below.setCell ?_ ?_ _) | (with_reducible exact Nat.le_refl _) | omega | ((repeat (first | rewrite [World.size_alloc] | rewrite [World.size_setCell] | rewrite [World.size_drew])); omega) | (simp; omega) | (simp; done)))
  have hA0 : At W0 w.heap.size 65 (tabA f) := by rw [hW0]; exact ((At.new _ _ _).alloc _).alloc _
  have hA1 : At W0 (w.heap.size + 1) 65 zA := by
    rw [hW0]; have := (At.new (w.alloc (.cells (tabA f) 65)) 65 zA).alloc (.cells zA 65)
    rwa [World.size_alloc] at this
  have hA2 : At W0 (w.heap.size + 1 + 1) 65 zA := by
    rw [hW0]; have := At.new ((w.alloc (.cells (tabA f) 65)).alloc (.cells zA 65)) 65 zA
    rwa [World.size_alloc, World.size_alloc] at this
  rw [← hW0]
  clear hW0
  refine range_law (F := Fence.wide) (gf := 56) (lf := #[.int .i64 9]) (lb := #[]) rfl (by decide) rfl trivial (fun args w => rfl) (encs := fun p : Nat => #[.int .i64 p]) (xs := List.range 9)
    (below_iter _ _ trivial rfl (by decide)) (fun _ => rfl)
    (fun pre W => At W (w.heap.size + 1 + 1) 65 (tabA (bkF f pre.length)) ∧ At W (w.heap.size + 1) 65 zA ∧ Below w.heap.size w W ∧ At W w.heap.size 65 (tabA f))
    (fun _ _ _ => False) ?_ (fun _ => ownFrom_pure _ _) ?_ (fun p => { tmps := #[tabX f, .pointer (some ⟨w.heap.size, 0, none⟩), .pointer (some ⟨w.heap.size + 1, 0, none⟩), .pointer (some ⟨w.heap.size + 1 + 1, 0, none⟩), .int .i64 p, undef, undef, .func (.func 56) #[.int .i64 9] #[], .int .i64 p, undef, undef, undef, undef, undef, undef, undef, undef, undef, undef, undef, undef], defers := [] }) ?_ ?_ ?_ ?_
  · rintro s A A' row ⟨h1, h2, h3, h4⟩ hg hr
    have hr' : ∀ r, row = some r → w.heap.size + 3 ≤ r := fun r e => by have := (hr r e).1; omega
    refine ⟨(hg.block _ h1.lt (fun e => ?_)).trans h1, (hg.block _ h2.lt (fun e => ?_)).trans h2, h3.trans (below_grown hg h3.size (fun g e => ?_)), (hg.block _ h4.lt (fun e => ?_)).trans h4⟩
    · have := hr' _ e.symm; omega
    · have := hr' _ e.symm; omega
    · have := hr' _ e; omega
    · have := hr' _ e.symm; omega
  · exact ⟨hA2, hA1, hB0, hA0⟩
  · intro l p W Kc hK
    gi_wp2
    exact hK
  · clear hA0 hA1 hA2 hB0
    rintro l pre p W ⟨h1, h2, h3, h4⟩ hp hsz
    obtain ⟨hl, hp9⟩ := pre_len pre p hp
    rw [hl] at h1
    have HL : Hid ((pre ++ [p]).length = p + 1) := by show _ = _; simp [hl]
    have HBK : Hid (bkF f (p + 1) = upd (bkF f p) (pidx (srcT f p)) (nm p)) := rfl
    have hip := hE.place hp9
    have hi9 := (pidx_spec hip).1
    have HTS := Lib.hid (tabC_set (bkF f p) (pidx (srcT f p)) hi9 (nm p))
    have hsrc := source_c f p hp9 W
    have HIX := Lib.hid (fun W' => indexOf_yes (srcT f p) hip W')
    have HNM := Lib.hid (fun W' => name_c p hp9 W')
    have hpc : (tabA (bkF f p))[pidx (srcT f p)]? = some (.string (bkF f p (pidx (srcT f p)))) := tabC_at _ _ hi9
    clear hl hip
    generalize hgm : bkF f p = g' at *
    generalize nm p = q at *
    generalize pidx (srcT f p) = j at *
    have HSRC := Lib.hid hsrc
    clear hsrc
    have i0 : (0 : Int) ≤ (j : Int) := by omega
    have i1 : (j : Int) < 9 := by omega
    have l1 := h1.lt
    have l2 := h2.lt
    have l4 := h4.lt
    have q0 : W.cell? ⟨w.heap.size, 0, none⟩ = some (.string (f 0)) := h4.cell 0
    have q1 : W.cell? ⟨w.heap.size, 1, none⟩ = some (.string (f 1)) := h4.cell 1
    have q2 : W.cell? ⟨w.heap.size, 2, none⟩ = some (.string (f 2)) := h4.cell 2
    have q3 : W.cell? ⟨w.heap.size, 3, none⟩ = some (.string (f 3)) := h4.cell 3
    have q4 : W.cell? ⟨w.heap.size, 4, none⟩ = some (.string (f 4)) := h4.cell 4
    have q5 : W.cell? ⟨w.heap.size, 5, none⟩ = some (.string (f 5)) := h4.cell 5
    have q6 : W.cell? ⟨w.heap.size, 6, none⟩ = some (.string (f 6)) := h4.cell 6
    have q7 : W.cell? ⟨w.heap.size, 7, none⟩ = some (.string (f 7)) := h4.cell 7
    have q8 : W.cell? ⟨w.heap.size, 8, none⟩ = some (.string (f 8)) := h4.cell 8
    gi_wp2
    refine ⟨trivial, ?_⟩
    refine CallsIn.inRound l (callsIn_wide.2 (HSRC.out.mono ?_))
    rintro e w2 ⟨rfl, hb2⟩
    clear q0 q1 q2 q3 q4 q5 q6 q7 q8
    gi_wp2
    refine ⟨trivial, ?_⟩
    refine CallsIn.inRound l (callsIn_wide.2 ((HIX.out _).mono ?_))
    rintro e w3 ⟨rfl, rfl⟩
    have k1 : At w2 (w.heap.size + 1 + 1) 65 (tabA g') := h1.keep hb2
    have k2 : At w2 (w.heap.size + 1) 65 zA := h2.keep hb2
    have k3 : Below w.heap.size w w2 := h3.trans (hb2.mono h3.size)
    have k4 : At w2 w.heap.size 65 (tabA f) := h4.keep hb2
    have kf := k1.frozen j
    have kc : w2.cell? ⟨w.heap.size + 1 + 1, j, none⟩ = some (.string (g' j)) := (k1.cell j).trans hpc
    have kl := k1.lt
    have kF : KeepsFrom W0.heap.size W w2 := keepsFrom_below hb2
    have kS : W.heap.size ≤ w2.heap.size := hb2.size
    clear h1 h2 h3 h4 hb2
    gi_wp2
    refine ⟨trivial, ?_⟩
    refine CallsIn.inRound l (callsIn_wide.2 ((HNM.out _).mono ?_))
    rintro e w3 ⟨rfl, rfl⟩
    gi_wp2
    refine ⟨kF.trans ((KeepsOthers.setCell _ _ _).from _), KeepsIn.zero (by simp [World.size_setCell]; exact kS), ?_, k2.far (by first | (simp; done) | (simp; omega)) _, k3.setCell (by show w.heap.size ≤ w.heap.size + 1 + 1; omega) _, k4.far (by first | (simp; done) | (simp; omega)) _⟩
    rw [HL.out, HBK.out]
    have := k1.set j (.string q)
    rw [show (tabA g').setIfInBounds j (.string q) = tabA (upd g' j q) from HTS.out] at this
    exact this
  · intro D W hD hI hd
    obtain ⟨h1, h2, h3, h4⟩ := hI
    clear hA0 hA1 hA2 hB0 h4
    replace h1 : At W (w.heap.size + 1 + 1) 65 (tabC (bkF f 9)) := h1
    have hl1 := h1.lt
    have hl2 := h2.lt
    have hDD : w.heap.size + 3 ≤ D := by first | omega | simpa [World.size_alloc, Nat.add_assoc] using hD
    generalize hg9 : bkF f 9 = g9 at *
    have HG9 := Lib.hid hg9
    clear hg9
    gi_wp2_with (first | (refine ldIn_row rfl 65 (.tmp 3) rfl (w.heap.size + 1 + 1) 65 (tabC g9) h1 (by rfl) 9 9 Tryz.underlying65 (by kernel_rfl) ?_) | (refine stIn_row rfl 65 (.tmp 2) (.tmp 20) rfl rfl (w.heap.size + 1) 65 zA (tabC g9) h2 (by rfl) (by rfl) (by kernel_rfl) rfl (tabC_all _) ?_; intro W6 hA6 hg6))
    have d6 : W6.heap[D]? = some (.deferred (some [])) := (hg6.block D (Array.getElem?_eq_some_iff.1 hd).1 (by simp; omega)).trans hd
    have bel : Below w.heap.size w W6 := h3.trans (below_grown hg6 h3.size (fun g hg => by cases hg; omega))
    simp only [Act.put, List.setIfInBounds_toArray, List.set_cons_succ, List.set_cons_zero]
    have fin : LeavesInM Fence.wide 5 Tryz.prog Tryz.f51 #[tabX f, .pointer (some ⟨w.heap.size, 0, none⟩), .pointer (some ⟨w.heap.size + 1, 0, none⟩), .pointer (some ⟨w.heap.size + 1 + 1, 0, none⟩), undef, undef, undef, .func (.func 56) #[.int .i64 9] #[], undef, undef, undef, undef, undef, undef, undef, undef, undef, undef, undef, undef, .agg (tabC g9)]
        (fun e w' => e = Ending.returned (tabX (bkF f 9)) ∧ Below w.heap.size w w') [] .returning (W6.putObj D (.deferred none)) := by
      exact ⟨_, results_row1 Tryz.results51 _ _ (w.heap.size + 1) 65 (tabC g9) (by rfl) ((World.putObj_heap_other (by omega)).trans hA6) 9 9 Tryz.underlying65 (by kernel_rfl), by rw [HG9.out]; rfl, bel.trans ⟨rfl, rfl, rfl, by simp [World.putObj], fun k hk => World.putObj_heap_other (by omega)⟩⟩
    exact ⟨by simp, .inl ⟨D, _, rfl, run_takeDeferred d6, fin⟩⟩
  · intro _ _ _ _ _ _ hf
    exact hf.elim
end Go.Proofs.YtfedloljhocpgaaGreatDoor
namespace Go.PM
open Go.RowKit
variable {F : Fence} {n : Nat} {P : Program}
structure RowStep (B : Nat) (r r' : Option Nat) (A A' : World) : Prop where
  size : A.heap.size ≤ A'.heap.size
  same : ∀ k, B ≤ k → k < A.heap.size → some k ≠ r → A'.heap[k]? = A.heap[k]?
  row : r' = r ∨ ∀ g, r' = some g → A.heap.size ≤ g
def IterR {α : Type} (Pr : World → Prop) (F : Fence) (n : Nat) (P : Program) (gf : Nat) (mk : Value → Array Value) (encs : α → Array Value) (xs : List α) : Prop :=
  ∀ (l : Nat) (J : Option Nat → List α → World → Prop) (r0 : Option Nat) (W : World),
    (∀ r, OwnFrom W.heap.size (J r)) → (∀ r pre A, J r pre A → Pr A ∧ ∀ g, r = some g → g < A.heap.size) →
    (∀ r pre x A, J r pre A → W.heap.size ≤ A.heap.size → pre ++ [x] <+: xs → YieldAt F (n - 1) P l (encs x) A fun e A' =>
      e = .returned (.bool true) ∧ ∃ r', J r' (pre ++ [x]) A' ∧ RowStep W.heap.size r r' A A') →
    J r0 [] W →
    CallsIn F n P gf (mk (.func (.yield l) #[] #[])) W fun e W' => (∃ v, e = .returned v) ∧ ∃ r, J r xs W'
def postR {α : Type} (B : Nat) (I : Option Nat → List α → World → Prop) (xs : List α) (r : Option Nat) (W : World) : Exit → Act → World → Prop
  | .normal, _, W' => ∃ r', I r' xs W' ∧ RowStep B r r' W W'
  | _, _, _ => False
theorem range_lawR {α : Type} {Pr : World → Prop} {g : Operand} {ps : Array Tmp} {assign body : Code} {Q : Exit → Act → World → Prop} {a : Act} {w : World} (hro : F.round = none) (h1 : 1 ≤ n)
    {gf : Nat} {lf lb : Array Value} (hg : a.eval g = .func (.func gf) lf lb) (hFg : F.fn gf) (eg : ∀ args w, (callFunc gf args).run P w = .ok (.enter gf args) w)
    {encs : α → Array Value} {xs : List α} (hit : IterR Pr F (n - 1) P gf (fun y => lf ++ #[y] ++ lb) encs xs) (hps : ∀ x, (encs x).size = ps.size)
    (I : Option Nat → List α → World → Prop) (r0 : Option Nat) (hPr : ∀ r pre A, I r pre A → Pr A ∧ ∀ g, r = some g → ∃ o : Obj, A.heap[g]? = some o ∧ o.isCells = true)
    (hI : ∀ r, OwnFrom w.heap.size (I r)) (h0 : I r0 [] w) (Ax : α → Act → World → Prop) (hAx : ∀ x a', OwnFrom w.heap.size (fun (_ : Unit) W => Ax x a' W))
    (hassign : ∀ (l : Nat) (r : Option Nat) (pre : List α) (x : α) (W : World) (K : Act → World → Prop), I r pre W → pre ++ [x] <+: xs → w.heap.size + 2 ≤ W.heap.size → (∀ a' W', Below W.heap.size W W' → I r pre W' → Ax x a' W' → K a' W') →
      assign.wpIn (F.inRound l) (n - 1 - 1) P (Exit.then K (fun _ _ _ => False)) { tmps := (ps.zip (encs x)).foldl (fun t (p, v) => t.setIfInBounds p v) a.tmps, defers := [] } W)
    (hbody : ∀ (l : Nat) (r : Option Nat) (pre : List α) (x : α) (a' : Act) (W : World), I r pre W → Ax x a' W → pre ++ [x] <+: xs → w.heap.size + 2 ≤ W.heap.size → body.wpIn (F.inRound l) (n - 1 - 1) P (postR w.heap.size I (pre ++ [x]) r W) a' W)
    (hdone : ∀ (D : Nat) (r : Option Nat) (W : World), w.heap.size ≤ D → I r xs W → W.heap[D]? = some (.deferred (some [])) → Q .normal { a with defers := { target := .collected D, args := #[] } :: a.defers } W) :
    (Code.rangeFunc g ps assign body).wpIn F n P Q a w := by
  refine wpIn_rangeFunc fun fn hfn => ?_
  rw [hro]
  have key : ∃ rc : LoopState → Option Code → Loop, rc = fun s j => { state := s, pending := j, fn, tmps := a.tmps, params := ps, assign, body, defers := w.heap.size } := ⟨_, rfl⟩
  obtain ⟨rc, hrc⟩ := key
  let V := (w.alloc (.deferred (some []))).alloc (.loop (rc .ready none))
  let Bk : LoopState → Option Code → World → Prop := fun s j A => A.heap[w.heap.size + 1]? = some (.loop (rc s j)) ∧ A.heap[w.heap.size]? = some (.deferred (some []))
  have bkput : ∀ {s j s' j' A}, Bk s j A → Bk s' j' (A.putObj (w.heap.size + 1) (.loop (rc s' j'))) := fun h =>
    ⟨World.putObj_heap_same (Array.getElem?_eq_some_iff.1 h.1).1, (World.putObj_heap_other (by omega)).trans h.2⟩
  have hVs : V.heap.size = w.heap.size + 2 := by simp [V, World.size_alloc]
  have bknew : ∀ {s j A A' row}, Bk s j A → A.grownBy A' row → (∀ r, row = some r → V.heap.size ≤ r ∧ ∃ o : Obj, A.heap[r]? = some o ∧ o.isCells = false) → Bk s j A' := fun h hg' hr =>
    ⟨(hg'.block _ (Array.getElem?_eq_some_iff.1 h.1).1 (fun e => by have := (hr _ e.symm).1; omega)).trans h.1, (hg'.block _ (Array.getElem?_eq_some_iff.1 h.2).1 (fun e => by have := (hr _ e.symm).1; omega)).trans h.2⟩
  have hV : Bk .ready none V := by
    refine ⟨?_, ?_⟩
    · have := World.alloc_heap_new (w.alloc (.deferred (some []))) (.loop (rc .ready none)); rwa [World.size_alloc] at this
    · exact (Below.heap_alloc _ _ _ (by simp)).trans (World.alloc_heap_new w _)
  have hIV : I r0 [] V := (hI r0).alloc _ ((hI r0).alloc _ h0)
  refine ⟨w.heap.size + 1, [{ target := .collected w.heap.size, args := #[] }], V, { target := .fn (.func gf) lb, args := lf ++ #[.func (.yield (w.heap.size + 1)) #[] #[]] }, V, gf,
    lf ++ #[.func (.yield (w.heap.size + 1)) #[] #[]] ++ lb, V, ?_, ?_, ?_, ?_, fun _ => h1, ?_⟩
  · have := run_enterLoop_outer (P := P) (w := w) fn a.tmps ps assign body
    rw [this]; simp only [V, hrc]
  · simp only [resolve, hg]
    simp [go_sem]
  · intro f' hf'
    simp [Target.leads] at hf'
    subst hf'; exact hFg
  · simp [invoke, go_sem, eg]
  refine (hit (w.heap.size + 1) (fun r pre A => I r pre A ∧ Bk .ready none A) r0 V
    (fun r pre A A' row h hg' hr => ⟨hI r pre A A' row h.1 hg' (fun q e => ⟨by have := (hr q e).1; omega, (hr q e).2⟩), bknew h.2 hg' hr⟩)
    (fun r pre A h => ⟨(hPr r pre A h.1).1, fun g e => by obtain ⟨o, ho, _⟩ := (hPr r pre A h.1).2 g e; exact (Array.getElem?_eq_some_iff.1 ho).1⟩) ?_ ⟨hIV, hV⟩).mono ?_
  · rintro r pre x A ⟨hi, hb⟩ hsz hpx
    have hy := run_yield (P := P) (args := encs x) hb.1 (by rw [hrc]; exact hps x)
    rw [hrc] at hy
    refine ⟨fn, _, assign, body, hy, roundIn_of_wpIn hfn (hassign _ r pre x A _ hi hpx (by omega) ?_)⟩
    intro a' Wa hbl hia hax
    have hlt := (Array.getElem?_eq_some_iff.1 hb.1).1
    replace hb : Bk .ready none Wa := ⟨(hbl.block _ hlt).trans hb.1, (hbl.block _ (by omega)).trans hb.2⟩
    clear hy hi
    refine ⟨_, run_beginRound hb.1 (by rw [hrc]), ?_⟩
    have hszA : A.heap.size ≤ Wa.heap.size := hbl.size
    have hb2 : Bk .busy none (Wa.putObj (w.heap.size + 1) (.loop (rc .busy none))) := bkput hb
    have e2 : ({ rc .ready none with state := .busy } : Loop) = rc .busy none := by rw [hrc]
    rw [e2]
    have hib := (hI r).putObj (.loop (rc .busy none)) hia (by omega) hb.1 rfl
    have hrr := (hPr r pre _ hib).2
    refine wpIn_mono (hbody _ r pre x a' _ hib ((hAx x a').putObj (s := ()) _ hax (by omega) hb.1 rfl) hpx (by simp [World.putObj]; omega)) ?_
    rintro e a3 C hp
    cases e with
    | normal =>
      obtain ⟨r', hi3, hst⟩ := hp
      have hne : ∀ k, w.heap.size ≤ k → k < w.heap.size + 2 → some k ≠ r := fun k hk1 hk2 e => by
        obtain ⟨o, ho, hoc⟩ := hrr k e.symm
        have : k = w.heap.size ∨ k = w.heap.size + 1 := by omega
        rcases this with rfl | rfl
        · rw [hb2.2] at ho; cases ho; cases hoc
        · rw [hb2.1] at ho; cases ho; cases hoc
      have s0 : (Wa.putObj (w.heap.size + 1) (.loop (rc .busy none))).heap.size = Wa.heap.size := by simp [World.putObj]
      have hb3 : Bk .busy none C := ⟨(hst.same _ (by omega) (by omega) (hne _ (by omega) (by omega))).trans hb2.1, (hst.same _ (by omega) (by omega) (hne _ (by omega) (by omega))).trans hb2.2⟩
      have h3 : (Instr.endRound (w.heap.size + 1) none).run P C = .ok (.bool true) (C.putObj (w.heap.size + 1) (.loop (rc .ready none))) := by
        rw [run_endRound (P := P) none hb3.1]; rw [hrc]; rfl
      refine ⟨_, _, h3, rfl, r', ⟨(hI r').putObj _ hi3 (by omega) hb3.1 rfl, bkput hb3⟩, ?_, ?_, ?_⟩
      · have := hst.size; simp [World.putObj] at this ⊢; omega
      · intro k hk1 hk2 hk3
        rw [World.putObj_heap_other (by omega), hst.same k (by omega) (by omega) hk3, World.putObj_heap_other (by omega)]
        exact hbl.block k hk2
      · rcases hst.row with h | h
        · exact .inl h
        · exact .inr fun g e => by have := h g e; omega
    | ret => exact hp.elim
    | exit id => exact hp.elim
    | goto t => exact hp.elim
    | panic ch => exact hp.elim
    | outgrown => exact hp.elim
  · rintro e C ⟨⟨v, rfl⟩, r, hi, hb⟩
    have h3 := run_endLoop (P := P) hb.1 (by rw [hrc]; simp)
    exact ⟨none, _, by rw [h3, hrc], hdone _ r _ (Nat.le_refl _) ((hI r).putObj _ hi (by omega) hb.1 rfl) ((World.putObj_heap_other (by omega)).trans hb.2)⟩
end Go.PM
namespace Go.PM
open Go.RowKit
def stpM (m : Mv) : St := (0, m.1, m.2)
def stL (ms : List Mv) : List St := ms.map stpM
theorem three_new (w : World) (a b c : Value) (t : TypeId) : ∀ j u, [a, b, c][j]? = some u → (w.alloc (.cells #[a, b, c] t)).cell? ((⟨w.heap.size, 0, none⟩ : Addr).add j) = some u := by
  intro j u hj
  match j, hj with
  | 0, hj => simp at hj; subst hj; simp [Addr.add]
  | 1, hj => simp at hj; subst hj; simp [Addr.add]
  | 2, hj => simp at hj; subst hj; simp [Addr.add]
theorem wpListIn_lies {F : Fence} {k : Nat} {P : Program} {w : World} {ops : Array Oper} {rest : List Oper} {o : Oper} {a : Act} {Q : Exit → Act → World → Prop} (hgd : o.guard = none) (s x : Operand) (t : TypeId)
    (ho : o.op = .call { callee := .builtin .append, args := #[s, x], argTypes := #[t, t] })
    (base : Nat) (e : TypeId) (i : TypeInfo) (z : Value) (size bytes : Nat) (ht : P.underlying t = some (.slice e)) (hi : P.info? e = some i) (hz : i.zero = some z)
    (hsize : i.size = size) (hby : i.bytes = bytes) (hzs : z.cells.size = size) (hsz : 0 < size)
    (v : Value) (n : Nat) (xs : List Value) (hs : a.eval s = v) (hown : w.ownsRow base e size v n xs)
    (ad : Addr) (m c : Nat) (news : List Value) (hx : a.eval x = .slice (some ad) m c) (hl : news.length = m * size) (hnews : ∀ j u, news[j]? = some u → w.cell? (ad.add j) = some u) (h1 : ∀ u ∈ news, u.oneCell' = true)
    (hm : 0 < m) (h63 : n + m ≤ maxLen) (hbytes : (n + m) * bytes ≤ 140737488355328) (hbase : base ≤ w.heap.size)
    (h : ∀ g cap w', w'.ownsRow base e size (.slice (some ⟨g, 0, none⟩) (n + m) cap) (n + m) (xs ++ news) → w.grownBy w' v.ownBlock → (v.ownBlock = some g ∨ g = w.heap.size) → g < w'.heap.size → wpListIn F k P ops Q rest (a.put o.dst (.slice (some ⟨g, 0, none⟩) (n + m) cap)) w') : wpListIn F k P ops Q (o :: rest) a w := by
  refine wpListIn_plain hgd fun K hK' => ?_
  obtain ⟨g, cap, w', hr, h2, h3, h4, h5⟩ := run_append_lies (P := P) w t o.type base e i z size bytes ht hi hz hsize hby hzs hsz v n xs hown ad m c news hl hnews h1 hm h63 hbytes hbase _ rfl
  unfold Oper.wpIn
  refine ⟨?_, ?_⟩
  · simp [Oper.about, ho, resolve, Target.leads, Sem.run_pure]
  · rw [Oper.semAt_plain F _ _ (by rw [ho]; intro c hc'; cases hc')]
    simp [execOp, ho, resolve, invoke, builtin, hs, hx, hr, Result.andThen]
    exact hK' _ _ (h g cap w' h2 h3 h4 h5)
def RowAt (A : World) (bx : Nat) (bt base : Nat) (e : TypeId) (size : Nat) (r : Option Nat) (n : Nat) (cs : List Value) (o : Value) : Prop :=
  At A bx bt #[o] ∧ A.ownsRow base e size o n cs ∧ o.ownBlock = r
theorem RowAt.turn {A A' : World} {bx bt base : Nat} {e : TypeId} {size : Nat} {r : Option Nat} {n : Nat} {cs : List Value} {o : Value} {row : Option Nat} (h : RowAt A bx bt base e size r n cs o) (hg : A.grownBy A' row) (hr : ∀ q, row = some q → ∃ ob : Obj, A.heap[q]? = some ob ∧ ob.isCells = false) : RowAt A' bx bt base e size r n cs o :=
  ⟨h.1.turn hg hr, own_turn h.2.1 hg hr, h.2.2⟩
theorem RowAt.lives {A : World} {bx bt base : Nat} {e : TypeId} {size : Nat} {r : Option Nat} {n : Nat} {cs : List Value} {o : Value} (h : RowAt A bx bt base e size r n cs o) : ∀ g, r = some g → ∃ ob : Obj, A.heap[g]? = some ob ∧ ob.isCells = true := by
  intro g hg
  obtain ⟨_, h2, h3⟩ := h
  rcases h2.2 with ⟨rfl, _⟩ | ⟨g', cap, cur, rfl, _, hh, _⟩
  · rw [hg] at h3; cases h3
  · rw [hg] at h3
    cases h3
    exact ⟨_, hh, rfl⟩
end Go.PM
namespace Go.Proofs.YtfedloljhocpgaaGreatDoor
open Go.RowKit Go.PM
attribute [local go_sem] Oper.semAt_some

theorem infoStp : (Tryz.prog.info? 58).map (fun i => (i.zero, i.size, i.bytes)) = some (some (.agg #[.int .i64 0, .string ⟨#[]⟩, .string ⟨#[]⟩]), 3, 40) := by kernel_rfl
set_option maxRecDepth 100000 in
set_option maxHeartbeats 2000000 in
theorem collS_c {Pr : World → Prop} (gf : Nat) (lf lb : Array Value) (eg : ∀ args W, (callFunc gf args).run Tryz.prog W = .ok (.enter gf args) W) (xs : List Mv) (hit : IterR Pr Fence.wide 4 Tryz.prog gf (fun y => lf ++ #[y] ++ lb) (fun m : Mv => #[.agg #[.int .i64 0, .string m.1, .string m.2]]) xs)
    (w : World) (hPr : ∀ A, Below w.heap.size w A → Pr A) (hlen : xs.length ≤ 1048575) :
    Calls Tryz.prog 87 #[.slice none 0 0, .func (.func gf) lf lb] w fun e w' => ∃ v', e = .returned v' ∧ w'.ownsRow w.heap.size 58 3 v' xs.length (scells (stL xs)) ∧ Below w.heap.size w w' := by
  refine (callsIn_wide (n := 5)).1 ?_
  refine callsIn_of_wp_marks Tryz.func87 rfl trivial ?_ rfl
  simp only [Tryz.ntmps87, List.size_toArray, List.length_cons, List.length_nil, Nat.reduceAdd, Nat.reduceSub, Array.replicate_succ, Array.replicate_zero, List.push_toArray, List.append_toArray, List.nil_append, List.cons_append]
  have hA0 : At (w.alloc (.cells #[.slice none 0 0] 25)) w.heap.size 25 #[.slice none 0 0] := At.new _ _ _
  have hB0 : Below w.heap.size w (w.alloc (.cells #[.slice none 0 0] 25)) := (Below.refl _ _).alloc (Nat.le_refl _) _
  gi_wp2
  refine range_lawR (F := Fence.wide) (gf := gf) (lf := lf) (lb := lb) rfl (by decide) rfl trivial eg (encs := fun m : Mv => #[.agg #[.int .i64 0, .string m.1, .string m.2]]) (xs := xs)
    hit (fun _ => rfl)
    (fun r pre W => (∃ o, RowAt W w.heap.size 25 w.heap.size 58 3 r pre.length (scells (stL pre)) o) ∧ Below w.heap.size w W) none ?_ ?_ ?_
    (fun m a' W => ∃ b, At W b 58 #[.int .i64 0, .string m.1, .string m.2] ∧ a' = { tmps := #[.slice none 0 0, .func (.func gf) lf lb, .pointer (some ⟨w.heap.size, 0, none⟩), undef, .slice none 0 0, .pointer (some ⟨b, 0, none⟩), .func (.func gf) lf lb, .agg #[.int .i64 0, .string m.1, .string m.2], undef, undef, undef, undef, undef], defers := [] }) ?_ ?_ ?_ ?_
  · rintro r pre A ⟨⟨o, ho⟩, hb⟩
    exact ⟨hPr A hb, ho.lives⟩
  · rintro r s A A' row ⟨⟨o, ho⟩, hb⟩ hg hr
    exact ⟨⟨o, ho.turn hg (fun q e => (hr q e).2)⟩, hb.trans (below_grown hg hb.size (fun g e => by have := (hr g e).1; simp at this; omega))⟩
  · exact ⟨⟨_, hA0, ⟨rfl, .inl ⟨rfl, rfl⟩⟩, rfl⟩, hB0⟩
  · rintro m a' s A A' row ⟨b, k1, k2⟩ hg hr
    exact ⟨b, k1.turn hg (fun r e => (hr r e).2), k2⟩
  · intro l r pre m W K hI hp hsz hK
    obtain ⟨⟨o, k1, k2, k3⟩, k4⟩ := hI
    have hbl : Below W.heap.size W (W.alloc (.cells #[.int .i64 0, .string m.1, .string m.2] 58)) := (Below.refl _ _).alloc (Nat.le_refl _) _
    have r1 : (∃ o, RowAt (W.alloc (.cells #[.int .i64 0, .string m.1, .string m.2] 58)) w.heap.size 25 w.heap.size 58 3 r pre.length (scells (stL pre)) o) ∧ Below w.heap.size w (W.alloc (.cells #[.int .i64 0, .string m.1, .string m.2] 58)) :=
      ⟨⟨o, k1.alloc _, own_keep k2 hbl, k3⟩, k4.alloc k4.size _⟩
    have r2 := At.new W 58 #[.int .i64 0, .string m.1, .string m.2]
    clear k1 k2 k3 k4
    gi_wp2
    exact hK _ _ hbl r1 ⟨_, r2, rfl⟩
  · rintro l r pre m a' W ⟨⟨o, k1, k2, k0⟩, k3⟩ ⟨b, q1, rfl⟩ hp hsz
    have hpl : pre.length + 1 ≤ xs.length := by have := hp.length_le; simpa using this
    have hpn : (pre ++ [m]).length = pre.length + 1 := by simp
    have c0 : W.cell? ⟨b, 0, none⟩ = some (.int .i64 0) := q1.cell 0
    have c1 : W.cell? ⟨b, 1, none⟩ = some (.string m.1) := q1.cell 1
    have c2 : W.cell? ⟨b, 2, none⟩ = some (.string m.2) := q1.cell 2
    have c3 : W.cell? ⟨w.heap.size, 0, none⟩ = some o := k1.cell 0
    have hl1 := k1.lt
    have hnw := three_new W (.int .i64 0) (.string m.1) (.string m.2) 58
    gi_wp2_with (gi_at_builtin; refine held ?_)
    unfold Held
    obtain ⟨i0, hi0, hz0, hz1, hz2⟩ := info_parts infoStp
    refine wpListIn_lies rfl (.tmp 8) (.tmp 10) 25 rfl w.heap.size 58 i0 _ 3 40 Tryz.underlying25 hi0 hz0 hz1 hz2 rfl (by omega) o pre.length (scells (stL pre)) (by rfl) (own_keep k2 ((Below.refl _ _).alloc (Nat.le_refl _) _)) ⟨W.heap.size, 0, none⟩ 1 1 [Value.int .i64 0, Value.string m.1, Value.string m.2] (by rfl) rfl hnw
      (by intro u hu; simp at hu; rcases hu with rfl | rfl | rfl <;> rfl) (by omega) (by simp only [maxLen]; omega) (by omega) (by simp; have := k3.size; omega) ?_
    intro g cap W3 hown3 hgrow3 hlies hg3
    have j1 : At W3 w.heap.size 25 #[o] := (k1.alloc (.cells #[.int .i64 0, .string m.1, .string m.2] 58)).grown hgrow3 (own_box_ne k2 k1 (by decide))
    have d1 := j1.cell 0
    have d2 := j1.frozen 0
    have hge := own_block_ge k2
    have hge3 := own_block_ge hown3
    have hne3 := own_box_ne hown3 j1 (by decide)
    have hcs : scells (stL pre) ++ [Value.int .i64 0, Value.string m.1, Value.string m.2] = scells (stL (pre ++ [m])) := by unfold stL; rw [List.map_append, scells_append]; simp [scells, stpM]
    rw [hcs, ← hpn] at hown3
    have m1 : At (W3.setCell ⟨w.heap.size, 0, none⟩ (.slice (some ⟨g, 0, none⟩) (pre.length + 1) cap)) w.heap.size 25 #[.slice (some ⟨g, 0, none⟩) (pre.length + 1) cap] := j1.set 0 _
    have hown4 := hown3.kept (grownBy_setCell' W3 w.heap.size _) (.inr hne3.symm) (w' := W3.setCell ⟨w.heap.size, 0, none⟩ (.slice (some ⟨g, 0, none⟩) (pre.length + 1) cap))
    have hB3 : Below w.heap.size w W3 := (k3.alloc k3.size _).trans (below_grown hgrow3 (by have := k3.size; simp; omega) (fun g e => hge g e))
    have hst : RowStep (w.heap.size + 1) r (some g) W (W3.setCell ⟨w.heap.size, 0, none⟩ (.slice (some ⟨g, 0, none⟩) (pre.length + 1) cap)) := by
      have hz3 := hgrow3.size
      simp at hz3
      refine ⟨by simp [World.size_setCell]; omega, fun k h1 h2 h3 => ?_, ?_⟩
      · rw [heap_setCell_other _ _ _ _ (by simp; omega), hgrow3.block k (by simp; omega) (by rw [k0]; exact h3)]
        exact Below.heap_alloc _ _ _ h2
      · rcases hlies with h | h
        · exact .inl (by rw [← h, k0])
        · exact .inr fun q e => by cases e; rw [h]; simp
    rw [hpn] at hown4
    have fin : ∃ r', ((∃ o, RowAt (W3.setCell ⟨w.heap.size, 0, none⟩ (.slice (some ⟨g, 0, none⟩) (pre.length + 1) cap)) w.heap.size 25 w.heap.size 58 3 r' (pre ++ [m]).length (scells (stL (pre ++ [m]))) o) ∧ Below w.heap.size w (W3.setCell ⟨w.heap.size, 0, none⟩ (.slice (some ⟨g, 0, none⟩) (pre.length + 1) cap))) ∧
        RowStep (w.alloc (.cells #[.slice none 0 0] 25)).heap.size r r' W (W3.setCell ⟨w.heap.size, 0, none⟩ (.slice (some ⟨g, 0, none⟩) (pre.length + 1) cap)) := by
      refine ⟨some g, ⟨⟨_, m1, ?_, rfl⟩, hB3.setCell (by simp) _⟩, by rw [World.size_alloc]; exact hst⟩
      rw [hpn]; exact hown4
    clear hnw c0 c1 c2 c3 k1 k2 k3 q1 hgrow3 hge hcs hown3 hown4 m1 hst hB3 hlies
    gi_wp2
    exact fin
  · intro D r W hD hI hd
    obtain ⟨⟨o, k1, k2, _⟩, k3⟩ := hI
    have c3 : W.cell? ⟨w.heap.size, 0, none⟩ = some o := k1.cell 0
    clear k1
    gi_wp2
    refine ⟨by simp, .inl ⟨D, _, rfl, run_takeDeferred hd, ?_⟩⟩
    exact ⟨_, results_tmp rfl _ _ _, _, rfl, own_turn k2 (grownBy_putObj' W D _) (fun r e => by cases e; exact ⟨_, hd, rfl⟩), k3.trans ⟨rfl, rfl, rfl, by simp [World.putObj], fun k hk => World.putObj_heap_other (by simp at hD; omega)⟩⟩
set_option maxRecDepth 100000 in
theorem collectS_c {Pr : World → Prop} (gf : Nat) (lf lb : Array Value) (eg : ∀ args W, (callFunc gf args).run Tryz.prog W = .ok (.enter gf args) W) (xs : List Mv) (hit : IterR Pr Fence.wide 4 Tryz.prog gf (fun y => lf ++ #[y] ++ lb) (fun m : Mv => #[.agg #[.int .i64 0, .string m.1, .string m.2]]) xs)
    (w : World) (hPr : ∀ A, Below w.heap.size w A → Pr A) (hlen : xs.length ≤ 1048575) :
    Calls Tryz.prog 38 #[.func (.func gf) lf lb] w fun e w' => ∃ v', e = .returned v' ∧ w'.ownsRow w.heap.size 58 3 v' xs.length (scells (stL xs)) ∧ Below w.heap.size w w' := by
  have HC := Lib.hid (collS_c gf lf lb eg xs hit w hPr hlen)
  go_enter Tryz.func38, Tryz.ntmps38
  go_wp2_with (go_at_call 87; refine HC.out.mono ?_; rintro e w' ⟨v', rfl, ho, hb⟩)
  go_ret
  exact ⟨_, rfl, ho, hb⟩
end Go.Proofs.YtfedloljhocpgaaGreatDoor
namespace Go.PM
open Go.RowKit
theorem own_box_ne' {w : World} {base : Nat} {e t : TypeId} {size n b : Nat} {v : Value} {cs : List Value} {c : Array Value} (h : w.ownsRow base e size v n cs) (hA : At w b t c) (hne : e ≠ t) : some b ≠ v.ownBlock := by
  rcases h.2 with ⟨rfl, _⟩ | ⟨g, cap, cur, rfl, _, hg, _⟩
  · simp [Value.ownBlock]
  · intro e'
    simp only [Value.ownBlock, Option.some.injEq] at e'
    subst e'
    unfold At at hA
    rw [hA] at hg
    cases hg
    exact hne rfl
theorem own_turn' {w w' : World} {base : Nat} {e : TypeId} {size n : Nat} {v : Value} {cs : List Value} {row : Option Nat} (h : w.ownsRow base e size v n cs) (hg : w.grownBy w' row) (hr : ∀ r, row = some r → ∃ o : Obj, w.heap[r]? = some o ∧ o.isCells = false) : w'.ownsRow base e size v n cs := by
  refine h.kept hg ?_
  rcases h.2 with ⟨rfl, _⟩ | ⟨g, cap, cur, rfl, _, hh, _⟩
  · exact .inl rfl
  · refine .inr fun e' => ?_
    obtain ⟨o, ho, hc⟩ := hr g e'.symm
    rw [hh] at ho
    cases ho
    cases hc
theorem at_turn' {w w' : World} {b : Nat} {t : TypeId} {c : Array Value} {row : Option Nat} (h : At w b t c) (hg : w.grownBy w' row) (hr : ∀ r, row = some r → ∃ o : Obj, w.heap[r]? = some o ∧ o.isCells = false) : At w' b t c := by
  refine (hg.block b h.lt fun e' => ?_).trans h
  obtain ⟨o, ho, hc⟩ := hr b e'.symm
  unfold At at h
  rw [h] at ho
  cases ho
  cases hc
theorem at_grown' {w w' : World} {b : Nat} {t : TypeId} {cs : Array Value} {row : Option Nat} (h : At w b t cs) (hg : w.grownBy w' row) (hne : some b ≠ row) : At w' b t cs := (hg.block b h.lt hne).trans h
end Go.PM
namespace Go.PS
open Go.PM Go.RowKit
def gC (g : Nat → Nat) : Array Value := #[.int .i64 (g 0 : Nat), .int .i64 (g 1 : Nat), .int .i64 (g 2 : Nat), .int .i64 (g 3 : Nat), .int .i64 (g 4 : Nat), .int .i64 (g 5 : Nat), .int .i64 (g 6 : Nat), .int .i64 (g 7 : Nat), .int .i64 (g 8 : Nat)]
theorem gC_at (g : Nat → Nat) (p : Nat) (hp : p < 9) : (gC g)[p]? = some (.int .i64 (g p : Nat)) := by
  match p, hp with
  | 0, _ | 1, _ | 2, _ | 3, _ | 4, _ | 5, _ | 6, _ | 7, _ | 8, _ => rfl
def setN (g : Nat → Nat) (p x : Nat) : Nat → Nat := fun q => if q = p then x else g q
theorem gC_set (g : Nat → Nat) (p : Nat) (hp : p < 9) (x : Nat) : (gC g).setIfInBounds p (.int .i64 (x : Nat)) = gC (setN g p x) := by
  match p, hp with
  | 0, _ | 1, _ | 2, _ | 3, _ | 4, _ | 5, _ | 6, _ | 7, _ | 8, _ => simp [gC, setN]
theorem gC_congr {f g : Nat → Nat} (h : ∀ p, p < 9 → f p = g p) : gC f = gC g := by
  unfold gC
  rw [h 0 (by omega), h 1 (by omega), h 2 (by omega), h 3 (by omega), h 4 (by omega), h 5 (by omega), h 6 (by omega), h 7 (by omega), h 8 (by omega)]
theorem grown_cellP (W : World) (a : Addr) (v : Value) : W.grownBy (W.setCell a v) (some a.block) :=
  ⟨rfl, rfl, rfl, by simp [World.size_setCell], fun k _ hne => heap_setCell_other W a k v (fun e => hne (by rw [e]))⟩
theorem swp_set (g : Nat → Nat) (p q : Nat) : setN (setN g p (g q)) q (g p) = swp g p q := by
  funext x
  show (if x = q then g p else if x = p then g q else g x) = g (tr p q x)
  unfold tr
  by_cases h1 : x = q
  · rw [if_pos h1]
    by_cases h2 : x = p
    · rw [if_pos h2, ← h1, ← h2]
    · rw [if_neg h2, if_pos h1]
  · rw [if_neg h1]
    by_cases h2 : x = p
    · rw [if_pos h2, if_pos h2]
    · rw [if_neg h2, if_neg h2, if_neg h1]
end Go.PS
namespace Go.Proofs.YtfedloljhocpgaaGreatDoor
open Go.RowKit Go.PM Go.PS Go.Lib
attribute [local go_sem] Oper.semAt_some

set_option maxRecDepth 100000 in
theorem indexP_c (g : Nat → Nat) (hg : Prm g) (b p : Nat) (hp : p < 9) (w : World) (hA : At w b 130 (gC g)) :
    Calls Tryz.prog 150 #[.slice (some ⟨b, 0, none⟩) 9 9, .int .i64 p] w fun e w' => e = .returned (.int .i64 (hold g p : Nat)) ∧ w = w' := by
  have h1 := hg.hold hp
  have HI := Lib.hid (fun q hq => hg.hold_iff hp hq (q := q))
  have hcs : ∀ q, q < 9 → w.cell? ⟨b, q, none⟩ = some (.int .i64 (g q : Nat)) := fun q hq => (hA.cell q).trans (gC_at g q hq)
  have hbl := hA.lt
  generalize hold g p = r at *
  go_enter Tryz.func150, Tryz.ntmps150
  go_wp2
  go_loopw [5, 8] (fun _ i wr => ∃ (k : Nat), k ≤ r ∧ i = .int .i64 k ∧ Hid (wr = w)) (fun _ i _ => 9 - (RowKit.intOf i).toNat)
  case atStart => exact ⟨0, by omega, rfl, rfl⟩
  case round =>
    obtain ⟨k, hk, rfl, hwr⟩ := hrel
    have hwr' := hwr.out
    subst hwr'
    have hlt : k < 9 := by omega
    have hd := hcs k hlt
    have i0 : (0 : Int) ≤ (k : Int) := by omega
    have i1 : (k : Int) < 9 := by omega
    have hiff := HI.out k hlt
    have HK := Lib.hid hiff
    clear hiff hcs hA
    by_cases e : g k = p
    · have hr : r = k := HK.out.1 e
      have ee : ((p : Int) == (g k : Int)) = true := by rw [beq_iff_eq]; omega
      subst hr
      generalize g r = x at *
      go_wp2
      go_ret
      exact ⟨rfl, rfl⟩
    · have ee : ((p : Int) == (g k : Int)) = false := by rw [beq_eq_false_iff_ne]; omega
      have hkr : k ≠ r := fun e2 => e (HK.out.2 e2.symm)
      have HKR := Lib.hid hkr
      clear hkr
      generalize g k = x at *
      go_wp2
      go_roundw
      case rel => exact ⟨k + 1, by have := HKR.out; omega, by go_num, trivial⟩
      case measure => simp [RowKit.intOf]; omega
theorem holder_c (g : Nat → Nat) (hg : Prm g) (b p : Nat) (hp : p < 9) (w : World) (hA : At w b 130 (gC g)) :
    Calls Tryz.prog 103 #[.pointer (some ⟨b, 0, none⟩), .int .i64 p] w fun e w' => e = .returned (.int .i64 (hold g p : Nat)) ∧ w = w' := by
  have HC := Lib.hid (indexP_c g hg b p hp w hA)
  have hlt := hA.lt
  go_enter Tryz.func103, Tryz.ntmps103
  go_wp2_with (go_at_call 150; refine HC.out.mono ?_; rintro e w' ⟨rfl, rfl⟩)
  go_ret
  exact ⟨rfl, rfl⟩
theorem results_stp (fn : Func) (hr : fn.results = #[.cell 6 58]) (W : World) (b : Nat) (k : Int) (a c : ByteArray) (hA : At W b 58 #[.int .i64 k, .string a, .string c]) (tmps : Array Value) (h2 : tmps.getD 6 undef = .pointer (some ⟨b, 0, none⟩)) :
    (results fn tmps).run Tryz.prog W = .ok (.agg #[.int .i64 k, .string a, .string c]) W := by
  have q0 := hA.cell 0
  have q1 := hA.cell 1
  have q2 := hA.cell 2
  simp at q0 q1 q2
  simp only [Array.getD_eq_getD_getElem?] at h2
  simp [results, hr, go_sem, h2, q0, q1, q2]
set_option maxRecDepth 100000 in
set_option maxHeartbeats 1600000 in
theorem swap_c (g : Nat → Nat) (b p q : Nat) (hp : p < 9) (hq : q < 9) (hpq : p ≠ q) (w : World) (hA : At w b 130 (gC g)) :
    Calls Tryz.prog 102 #[.pointer (some ⟨b, 0, none⟩), .int .i64 p, .int .i64 q] w fun e w' => e = .returned (.agg #[.int .i64 1, .string (nm p), .string (nm q)]) ∧ At w' b 130 (gC (swp g p q)) ∧ w.grownBy w' (some b) := by
  have hn1 := fun W' => name_c p hp W'
  have hn2 := fun W' => name_c q hq W'
  have hlt := hA.lt
  obtain ⟨W1, hW1e⟩ : ∃ W1, W1 = w.alloc (.cells #[.int .i64 0, .string ⟨#[]⟩, .string ⟨#[]⟩] 58) := ⟨_, rfl⟩
  have hb1 : Below w.heap.size w W1 := by rw [hW1e]; exact (Below.refl _ _).alloc (Nat.le_refl _) _
  have hz1 : W1.heap.size = w.heap.size + 1 := by rw [hW1e]; simp
  have hA1 : At W1 b 130 (gC g) := hA.keep hb1
  have hN1 : At W1 w.heap.size 58 #[.int .i64 0, .string ⟨#[]⟩, .string ⟨#[]⟩] := by rw [hW1e]; exact At.new _ _ _
  have hA2 := (hA1.set p (.int .i64 (g q : Nat))).set q (.int .i64 (g p : Nat))
  rw [gC_set g p hp, gC_set _ q hq, swp_set] at hA2
  have hg1 := (grown_cellP W1 ⟨b, p, none⟩ (.int .i64 (g q : Nat)))
  have hg2 := (grown_cellP (W1.setCell ⟨b, p, none⟩ (.int .i64 (g q : Nat))) ⟨b, q, none⟩ (.int .i64 (g p : Nat)))
  have hgg := grown_trans (grown_below hb1 (some b)) (grown_trans hg1 hg2)
  have hN2 := (hN1.far (show w.heap.size ≠ (⟨b, p, none⟩ : Addr).block by show w.heap.size ≠ b; omega) (.int .i64 (g q : Nat))).far (show w.heap.size ≠ (⟨b, q, none⟩ : Addr).block by show w.heap.size ≠ b; omega) (.int .i64 (g p : Nat))
  have c1 : W1.cell? ⟨b, p, none⟩ = some (.int .i64 (g p : Nat)) := (hA1.cell p).trans (gC_at g p hp)
  have c2 : W1.cell? ⟨b, q, none⟩ = some (.int .i64 (g q : Nat)) := (hA1.cell q).trans (gC_at g q hq)
  have f1 := hA1.frozen p
  have f2 := hA1.frozen q
  have i0 : (0 : Int) ≤ (p : Int) := by omega
  have i1 : (p : Int) < 9 := by omega
  have i2 : (0 : Int) ≤ (q : Int) := by omega
  have i3 : (q : Int) < 9 := by omega
  have hbz : b < W1.heap.size := by omega
  clear hA hA1 hN1 hg1 hg2 hb1
  generalize g p = x at *
  generalize g q = y at *
  generalize swp g p q = g2 at *
  generalize nm p = np at *
  generalize nm q = nq at *
  go_enter Tryz.func102, Tryz.ntmps102
  go_wp2
  rw [← hW1e]
  clear hW1e
  go_region
  obtain ⟨W2, hW2⟩ : ∃ W2, W2 = ((W1.setCell ⟨b, p, none⟩ (.int .i64 (y : Nat))).setCell ⟨b, q, none⟩ (.int .i64 (x : Nat))).drew := ⟨_, rfl⟩
  have hA3 : At W2 b 130 (gC g2) := by rw [hW2]; exact hA2
  have hN3 : At W2 w.heap.size 58 #[.int .i64 0, .string ⟨#[]⟩, .string ⟨#[]⟩] := by rw [hW2]; exact hN2
  have hG3 : w.grownBy W2 (some b) := by rw [hW2]; exact ⟨hgg.os, hgg.tape, hgg.output, hgg.size, hgg.block⟩
  rw [← hW2]
  clear hW2 hA2 hN2 hgg c1 c2 f1 f2
  have z0 := hN3.frozen 0
  have z1 := hN3.frozen 1
  have z2 := hN3.frozen 2
  have hNl := hN3.lt
  have k0 : W2.cell? ⟨w.heap.size, 0, none⟩ = some (.int .i64 0) := hN3.cell 0
  have k1 : W2.cell? ⟨w.heap.size, 1, none⟩ = some (.string ⟨#[]⟩) := hN3.cell 1
  have k2 : W2.cell? ⟨w.heap.size, 2, none⟩ = some (.string ⟨#[]⟩) := hN3.cell 2
  have hA4 := ((hA3.far (show b ≠ (⟨w.heap.size, 0, none⟩ : Addr).block by show b ≠ w.heap.size; omega) (.int .i64 1)).far (show b ≠ (⟨w.heap.size, 1, none⟩ : Addr).block by show b ≠ w.heap.size; omega) (.string np)).far (show b ≠ (⟨w.heap.size, 2, none⟩ : Addr).block by show b ≠ w.heap.size; omega) (.string nq)
  have hG4 : w.grownBy (((W2.setCell ⟨w.heap.size, 0, none⟩ (.int .i64 1)).setCell ⟨w.heap.size, 1, none⟩ (.string np)).setCell ⟨w.heap.size, 2, none⟩ (.string nq)) (some b) :=
    ⟨hG3.os, hG3.tape, hG3.output, by simp [World.size_setCell]; exact hG3.size, fun k hk hne => by
      rw [heap_setCell_other _ _ _ _ (by show k ≠ w.heap.size; omega), heap_setCell_other _ _ _ _ (by show k ≠ w.heap.size; omega), heap_setCell_other _ _ _ _ (by show k ≠ w.heap.size; omega)]
      exact hG3.block k hk hne⟩
  have hN4 := ((hN3.set 0 (.int .i64 1)).set 1 (.string np)).set 2 (.string nq)
  have HN4 := Lib.hid hN4
  clear hN4
  have HA4 := Lib.hid hA4
  have HG4 := Lib.hid hG4
  clear hA4 hG4 hA3 hG3 hN3
  go_wp2_with (go_at_call 59; first | (refine (hn1 _).mono ?_; rintro e w' ⟨rfl, rfl⟩) | (refine (hn2 _).mono ?_; rintro e w' ⟨rfl, rfl⟩))
  refine bodyPost_ret (v := .agg #[.int .i64 1, .string np, .string nq]) (results_stp _ Tryz.results102 _ w.heap.size _ _ _ (by simpa using HN4.out) _ rfl) rfl ⟨rfl, HA4.out, HG4.out⟩
end Go.Proofs.YtfedloljhocpgaaGreatDoor
namespace Go.PM
open Go.RowKit
section
variable {F : Fence} {m : Nat} {P : Program} {ops : Array Oper} {md : Region.Mode} {C D : World → Prop} {Q : Exit → Act → World → Prop}
def wpListT (F : Fence) (m : Nat) (P : Program) (ops : Array Oper) (D : World → Prop) (Q : Exit → Act → World → Prop) (rest : List Oper) : List Oper → Act → World → Prop
  | [], a, w => D w ∧ wpListIn F m P ops Q rest a w
  | o :: l, a, w => D w ∧ Oper.wpIn F m P o a w (wpListT F m P ops D Q rest l) Q
theorem wpAnyT_of_list {rest : List Oper} (hne : rest ≠ []) : ∀ (l : List Oper) (k : Nat) (listed : Array Bool) (a : Act) (w : World), (∀ j, (l ++ rest)[j]? = ops[k + j]?) →
    Region.waitsFor md ops (k + l.length) 0 = true → (∀ o ∈ l, o.guard = none) → Region.seqB md ops (l.length + rest.length) k listed = true → wpListT F m P ops D Q rest l a w → wpAnyT F m P md ops D Q (l.length + rest.length) listed a w
  | [], k, listed, a, w, hl, hw0, _, hB, h => by
    obtain ⟨hD, hlist⟩ := h
    cases rest with
    | nil => exact absurd rfl hne
    | cons o r =>
      have hl' : ∀ j, (o :: r)[j]? = ops[k + j]? := fun j => by simpa using hl j
      have hB' : Region.seqB md ops (o :: r).length k listed = true := by simpa using hB
      have hany := wpAnyIn_of_seq' (md := md) (Q' := Q) (o :: r) k listed a w hl' hB' hlist
      simp only [List.length_cons, Region.seqB, Bool.and_eq_true, decide_eq_true_eq] at hB'
      simp only [List.length_nil, Nat.zero_add, List.length_cons] at hany ⊢
      refine ⟨hD, hany.1, fun j hj => ?_⟩
      rw [hB'.1] at hj
      have hjn : j = k := by simpa using hj
      subst hjn
      have hw0' : Region.waitsFor md ops j 0 = true := by simpa using hw0
      simp only [hw0', if_true]
      exact hany.2 _ (by rw [hB'.1]; simp)
  | o :: l, k, listed, a, w, hl, hw0, hg, hB, h => by
    obtain ⟨hD, hop⟩ := h
    have h0 : ops[k]? = some o := by simpa using (hl 0).symm
    have e : (o :: l).length + rest.length = (l.length + rest.length) + 1 := by simp only [List.length_cons]; omega
    rw [e] at hB ⊢
    simp only [Region.seqB, Bool.and_eq_true, decide_eq_true_eq] at hB
    refine ⟨hD, fun h1 => (by rw [hB.1] at h1; cases h1), fun j hj => ?_⟩
    rw [hB.1] at hj
    have hjk : j = k := by simpa using hj
    subst hjk
    have hwn : Region.wanted o (yielded ops a.tmps) = true := by simp [Region.wanted, hg o (by simp)]
    have hw : wpOpIn F m P ops Q j (wpListT F m P ops D Q rest l) a w := by
      unfold wpOpIn
      simp only [h0]
      rw [if_pos hwn]; exact hop
    refine wpOpIn_mono (fun a' w' h' => ?_) hw
    have hT := wpAnyT_of_list hne l (j + 1) (listed.setIfInBounds j true) a' w' (fun i => by have := hl (i + 1); simpa [Nat.add_assoc, Nat.add_comm 1 i] using this) (by
      have : j + 1 + l.length = j + (o :: l).length := by simp only [List.length_cons]; omega
      rw [this]; exact hw0) (fun o' ho' => hg o' (by simp [ho'])) hB.2 h'
    split
    · exact wpAnyT_any _ _ _ _ hT
    · exact hT
def lateB2 (ops : Array Oper) (n k : Nat) : Bool :=
  Region.noSelect ops && decide (0 < n) && decide (n + k < ops.size) && sinkB1 .any ops n && Region.chainB .any ops n && Region.lexHead .any ops (ops.size - n) (n - 1) 1 ((Array.replicate ops.size false).setIfInBounds 0 true) &&
    Region.waitsFor .any ops (n + k) 0 && Region.free .any ops (Array.replicate ops.size false) 0 && (Region.ready .any ops (Array.replicate ops.size false)).contains 0
theorem any_late2 {a : Act} {w : World} {l : List Oper} (n k : Nat) (hro : F.round = none) (hB : lateB2 l.toArray n k = true) (o0 : Oper) (h0 : l[0]? = some o0) (hgn : ∀ o ∈ (l.drop n).take k, o.guard = none) (v0 : Value)
    (hQ : ∀ c a w, Q (.panic c) (a.put o0.dst v0) w → Q (.panic c) a w) (hy : YieldsD P l.toArray D o0 v0 a) (hCD : ∀ w, C w → D w) (hC : C w)
    (h : wpQuietIn F m P l.toArray C (fun a' => ∀ w', C w' → wpListT F m P l.toArray D Q (l.drop (n + k)) ((l.drop n).take k) a' w') ((l.drop 1).take (n - 1)) (a.put o0.dst v0)) :
    wpAnyIn F m P .any l.toArray Q l.toArray.size (Array.replicate l.toArray.size false) a w := by
  simp only [lateB2, Bool.and_eq_true, decide_eq_true_eq] at hB
  obtain ⟨⟨⟨⟨⟨⟨⟨⟨hsel, hn0⟩, hn⟩, hs⟩, hc⟩, hlex⟩, hw0⟩, hf0⟩, hr0⟩ := hB
  have hn' : n + k < l.length := by simpa using hn
  have hr0' : 0 ∈ Region.ready .any l.toArray (Array.replicate l.toArray.size false) := by simpa using hr0
  have h0a : l.toArray[0]? = some o0 := by simpa using h0
  have inv0 : HeadInv .any l.toArray n (Array.replicate l.toArray.size false) :=
    ⟨by simp, fun j oj _ hl => (by rw [getD_replicate_false] at hl; cases hl), fun t _ ht => getD_in (by simpa using ht) (getD_replicate_false _ _)⟩
  have inv1 := inv0.set hr0' hn0
  have htl : ((l.drop 1).take (n - 1)).length = n - 1 := by simp; omega
  have H := wpAnyLQ1_lex (md := .any) (g := l.toArray.size - n) hsel hs hc (by omega) ((l.drop 1).take (n - 1)) 1 _ (a.put o0.dst v0) (by decide) (fun j hj => by
    have hj' : j < n - 1 := by rw [htl] at hj; exact hj
    simp [hj', Nat.add_comm]) (by rw [htl]; omega) inv1 (by rw [htl]; exact hlex) h
  have hlm : ((l.drop n).take k).length = k := by simp; omega
  have hlr : (l.drop (n + k)).length = l.length - (n + k) := by simp
  have hsz : ((l.drop n).take k).length + (l.drop (n + k)).length = l.toArray.size - n := by rw [hlm, hlr]; simp; omega
  have happ : (l.drop n).take k ++ l.drop (n + k) = l.drop n := by rw [← List.drop_drop]; exact List.take_append_drop _ _
  have T := wpAnyT_of_headQ (D := D) (Q := Q) (g := l.toArray.size - n) hro hCD (fun listed a' w' hw' hL => by
    obtain ⟨hseq, hLq⟩ := hL
    rw [← hsz] at hseq ⊢
    exact wpAnyT_of_list (fun e => by rw [e] at hlr; simp at hlr; omega) _ n listed a' w' (fun j => by rw [happ]; simp [List.getElem?_drop]) (by rw [hlm]; exact hw0) hgn hseq (hLq w' hw')) _ _ _ _ hC H
  rw [htl, show n - 1 + (l.toArray.size - n) = l.toArray.size - 1 by omega] at T
  have := late_first (md := .any) hro h0a (Region.noSelect_spec hsel) hQ (l.toArray.size - 1) _ a w (Region.free_spec h0a hf0) hr0' hy T
  rw [show l.toArray.size - 1 + 1 = l.toArray.size by omega] at this
  exact this
theorem region_late2_inRound {id r : Nat} {a : Act} {w : World} {l : List Oper} (n k : Nat) (hro : F.round = none) (hd : noDefer l.toArray = true) (hm : P.follows .mixedOrders = true) (hB : lateB2 l.toArray n k = true) (o0 : Oper) (h0 : l[0]? = some o0) (hgn : ∀ o ∈ (l.drop n).take k, o.guard = none) (v0 : Value)
    (hQ : ∀ c a w, Q (.panic c) (a.put o0.dst v0) w → Q (.panic c) a w) (hy : YieldsD P l.toArray D o0 v0 a) (hCD : ∀ w, C w → D w) (hC : C w.drew)
    (h : wpQuietIn F m P l.toArray C (fun a' => ∀ w', C w' → wpListT F m P l.toArray D Q (l.drop (n + k)) ((l.drop n).take k) a' w') ((l.drop 1).take (n - 1)) (a.put o0.dst v0)) :
    (Code.region id l.toArray true).wpIn (F.inRound r) m P Q a w :=
  region_inRound hro hd hm (any_late2 n k hro hB o0 h0 hgn v0 hQ hy hCD hC h)
theorem region_late2 {id : Nat} {a : Act} {w : World} {l : List Oper} (n k : Nat) (hro : F.round = none) (hm : P.follows .mixedOrders = true) (hB : lateB2 l.toArray n k = true) (o0 : Oper) (h0 : l[0]? = some o0) (hgn : ∀ o ∈ (l.drop n).take k, o.guard = none) (v0 : Value)
    (hQ : ∀ c a w, Q (.panic c) (a.put o0.dst v0) w → Q (.panic c) a w) (hy : YieldsD P l.toArray D o0 v0 a) (hCD : ∀ w, C w → D w) (hC : C w.drew)
    (h : wpQuietIn F m P l.toArray C (fun a' => ∀ w', C w' → wpListT F m P l.toArray D Q (l.drop (n + k)) ((l.drop n).take k) a' w') ((l.drop 1).take (n - 1)) (a.put o0.dst v0)) :
    (Code.region id l.toArray true).wpIn F m P Q a w :=
  wpIn_region_any hm (any_late2 n k hro hB o0 h0 hgn v0 hQ hy hCD hC h)
end
end Go.PM
namespace Go.PS
open Go.PM Go.RowKit
def swS (p : Nat × Nat) : St := (1, nm p.1, nm p.2)
def swL (ps : List (Nat × Nat)) : List St := ps.map swS
theorem swL_app (ps qs : List (Nat × Nat)) : swL (ps ++ qs) = swL ps ++ swL qs := by simp [swL]
theorem swL_len (ps : List (Nat × Nat)) : (swL ps).length = ps.length := by simp [swL]
theorem scells_one (xs : List St) : ∀ u ∈ scells xs, u.oneCell' = true := by
  intro u hu
  unfold scells at hu
  obtain ⟨x, _, hx⟩ := List.mem_flatMap.1 hu
  simp at hx
  rcases hx with rfl | rfl | rfl <;> rfl
theorem op_k {F : Fence} {n : Nat} {P : Program} {o : Oper} {a : Act} {w : World} {X : Act → World → Prop} {Q : Exit → Act → World → Prop} (h : ∀ K : Act → World → Prop, (∀ a w, X a w → K a w) → Oper.wpIn F n P o a w K Q) : Oper.wpIn F n P o a w X Q := h X fun _ _ h => h
theorem own_cellsAt {w : World} {base : Nat} {e : TypeId} {n b cap : Nat} {xs : List Value} {size : Nat} (h : w.ownsRow base e size (.slice (some ⟨b, 0, none⟩) n cap) n xs) : ∀ j u, xs[j]? = some u → w.cell? ((⟨b, 0, none⟩ : Addr).add j) = some u := by
  intro j u hu
  have hj : j < n * size := by have := (List.getElem?_eq_some_iff.1 hu).1; rw [h.1] at this; exact this
  rw [show (⟨b, 0, none⟩ : Addr).add j = ⟨b, j, none⟩ by unfold Addr.add; split <;> simp_all]
  rw [h.cellAt j hj]; exact hu
end Go.PS
namespace Go.Proofs.YtfedloljhocpgaaGreatDoor
open Go.RowKit Go.PM Go.PS
theorem infoSt3 : (Tryz.prog.info? 58).map (fun i => (i.zero, i.size, i.bytes)) = some (some (.agg #[.int .i64 0, .string ⟨#[]⟩, .string ⟨#[]⟩]), 3, 40) := by kernel_rfl
theorem sliceIn_st {F : Fence} {n : Nat} {o : Oper} {a : Act} {w : World} {K : Act → World → Prop} {Q : Exit → Act → World → Prop} (x : Operand) (ho : o.op = .buildSlice 25 1 #[(0, x)]) (k : Int) (s t : ByteArray) (hx : a.eval x = .agg #[.int .i64 k, .string s, .string t])
    (h : K (a.put o.dst (.slice (some ⟨w.heap.size, 0, none⟩) 1 1)) (w.alloc (.cells #[.int .i64 k, .string s, .string t] 58))) : o.wpIn F n Tryz.prog a w K Q := by
  obtain ⟨i0, hi0, hz0, hz1, hz2⟩ := info_parts infoSt3
  refine sliceIn 25 58 1 #[(0, x)] ho #[.int .i64 k, .string s, .string t] i0 _ Tryz.underlying25 hi0 hz0 (by rw [hz1]; decide) (by rw [hz1]; decide) ?_ h
  have hr : Array.range 3 = #[0, 1, 2] := by decide
  simp [hx, hz1, Instr.fill, Value.cells, hr]
theorem listIn_st {F : Fence} {k : Nat} {ops : Array Oper} {rest : List Oper} {o : Oper} {a : Act} {Q : Exit → Act → World → Prop} {w : World} (hgd : o.guard = none) (s x : Operand)
    (ho : o.op = .call { callee := .builtin .append, args := #[s, x], argTypes := #[25, 25] })
    (base : Nat) (v : Value) (ys : List St) (m : St) (ad : Addr) (c : Nat) (hs : a.eval s = v) (hx : a.eval x = .slice (some ad) 1 c)
    (hown : w.ownsRow base 58 3 v ys.length (scells ys)) (hnew : ∀ j u, [Value.int .i64 m.1, Value.string m.2.1, Value.string m.2.2][j]? = some u → w.cell? (ad.add j) = some u)
    (hlen : ys.length ≤ 1048576) (hbase : base ≤ w.heap.size)
    (h : ∀ v' w', w'.ownsRow base 58 3 v' (ys ++ [m]).length (scells (ys ++ [m])) → w.grownBy w' v.ownBlock → wpListIn F k Tryz.prog ops Q rest (a.put o.dst v') w') : wpListIn F k Tryz.prog ops Q (o :: rest) a w := by
  obtain ⟨i0, hi0, hz0, hz1, hz2⟩ := info_parts infoSt3
  refine wpListIn_append_own w hgd s x _ ho base 58 i0 _ 3 40 Tryz.underlying25 hi0 hz0 hz1 hz2 rfl (by omega) v ys.length (scells ys) hs hown ad 1 c [Value.int .i64 m.1, Value.string m.2.1, Value.string m.2.2] hx rfl hnew
    (by intro u hu; simp at hu; rcases hu with rfl | rfl | rfl <;> rfl) (by simp only [maxLen]; omega) (by omega) hbase ?_
  intro v' w' h2 h3 _
  refine h v' w' ?_ h3
  have hcs : scells ys ++ [Value.int .i64 m.1, Value.string m.2.1, Value.string m.2.2] = scells (ys ++ [m]) := by rw [scells_append]; simp [scells]
  rw [← hcs, List.length_append]
  simpa using h2
theorem run_app_rows (w : World) (ty : TypeId) (base base2 : Nat) (v v2 : Value) (ys zs : List St) (hown : w.ownsRow base 58 3 v ys.length (scells ys)) (hown2 : w.ownsRow base2 58 3 v2 zs.length (scells zs))
    (hlen : ys.length + zs.length ≤ 1048576) (hbase : base ≤ w.heap.size) :
    ∃ v' w', (Builtin.append_ #[25, 25] ty #[v, v2]).run Tryz.prog w = .ok v' w' ∧ w'.ownsRow base 58 3 v' (ys ++ zs).length (scells (ys ++ zs)) ∧ w.grownBy w' v.ownBlock := by
  obtain ⟨i0, hi0, hz0, hz1, hz2⟩ := info_parts infoSt3
  have hc2 := hown2.2
  rcases hc2 with ⟨rfl, hn⟩ | ⟨g, cap, cur, rfl, _, _, _⟩
  · have hz : zs = [] := List.length_eq_zero_iff.1 hn
    subst hz
    refine ⟨v, w, run_append_owned_none w base 25 ty 58 i0 3 Tryz.underlying25 hi0 v ys.length (scells ys) hown, by simpa using hown, grown_refl _ _⟩
  · obtain ⟨v', w', hr, r1, r2, _⟩ := run_append_own (P := Tryz.prog) w base 25 ty 58 i0 _ 3 40 Tryz.underlying25 hi0 hz0 hz1 hz2 rfl (by omega) v ys.length (scells ys) hown ⟨g, 0, none⟩ zs.length cap (scells zs) (scells_length zs) (own_cellsAt hown2) (scells_one zs) (by simp only [maxLen]; omega) (by omega) hbase
    refine ⟨v', w', hr, ?_, r2⟩
    rw [List.length_append, scells_append]; exact r1
theorem listIn_rows {F : Fence} {k : Nat} {ops : Array Oper} {rest : List Oper} {o : Oper} {a : Act} {Q : Exit → Act → World → Prop} {w : World} (hgd : o.guard = none) (s x : Operand)
    (ho : o.op = .call { callee := .builtin .append, args := #[s, x], argTypes := #[25, 25] })
    (base base2 : Nat) (v v2 : Value) (ys zs : List St) (hs : a.eval s = v) (hx : a.eval x = v2)
    (hown : w.ownsRow base 58 3 v ys.length (scells ys)) (hown2 : w.ownsRow base2 58 3 v2 zs.length (scells zs))
    (hlen : ys.length + zs.length ≤ 1048576) (hbase : base ≤ w.heap.size)
    (h : ∀ v' w', w'.ownsRow base 58 3 v' (ys ++ zs).length (scells (ys ++ zs)) → w.grownBy w' v.ownBlock → wpListIn F k Tryz.prog ops Q rest (a.put o.dst v') w') : wpListIn F k Tryz.prog ops Q (o :: rest) a w := by
  refine wpListIn_plain hgd fun K hK' => ?_
  obtain ⟨v', w', hrun, r1, r2⟩ := run_app_rows w o.type base base2 v v2 ys zs hown hown2 hlen hbase
  unfold Oper.wpIn
  refine ⟨?_, ?_⟩
  · simp [Oper.about, ho, resolve, Target.leads, Sem.run_pure]
  · rw [Oper.semAt_plain F _ _ (by rw [ho]; intro c hc'; cases hc')]
    simp [execOp, ho, resolve, invoke, builtin, hs, hx, hrun, Result.andThen]
    exact hK' _ _ (h v' w' r1 r2)
end Go.Proofs.YtfedloljhocpgaaGreatDoor
namespace Go.Proofs.YtfedloljhocpgaaGreatDoor
open Go.RowKit Go.PM
attribute [local go_sem] Oper.semAt_some

end Go.Proofs.YtfedloljhocpgaaGreatDoor
namespace Go.PS
open Go.PM Go.RowKit
def SwW (t1 t2 t3 t4 e : TypeId) (fv : Value) (w : World) (B b : Nat) (A : World) (ps : List (Nat × Nat)) (g : Nat → Nat) (o : Value) : Prop :=
  At A w.heap.size t1 #[.pointer (some ⟨b, 0, none⟩)] ∧ At A (w.heap.size + 1) t2 #[o] ∧ At A (w.heap.size + 1 + 1) t3 #[fv] ∧ A.ownsRow B e 3 o (swL ps).length (scells (swL ps)) ∧ At A b t4 (gC g) ∧ w.grownBy A (some b)
theorem SwW.turn {t1 t2 t3 t4 e : TypeId} {fv : Value} {w : World} {B b : Nat} {A A' : World} {ps : List (Nat × Nat)} {g : Nat → Nat} {o : Value} {row : Option Nat} (h : SwW t1 t2 t3 t4 e fv w B b A ps g o) (hg : A.grownBy A' row) (hr : ∀ r, row = some r → w.heap.size ≤ r ∧ ∃ ob : Obj, A.heap[r]? = some ob ∧ ob.isCells = false) : SwW t1 t2 t3 t4 e fv w B b A' ps g o := by
  obtain ⟨h1, h2, h3, h4, h5, h6⟩ := h
  refine ⟨at_turn h1 hg (fun r e => (hr r e).2), at_turn h2 hg (fun r e => (hr r e).2), at_turn h3 hg (fun r e => (hr r e).2), row_turn h4 hg (fun r e => (hr r e).2), at_turn h5 hg (fun r e => (hr r e).2), ?_⟩
  refine ⟨hg.os.trans h6.os, hg.tape.trans h6.tape, hg.output.trans h6.output, Nat.le_trans h6.size hg.size, fun i hi hne => ?_⟩
  rw [hg.block i (by have := h6.size; omega) (fun e => by have := (hr i e.symm).1; omega)]
  exact h6.block i hi hne
theorem at_cells {w : World} {b : Nat} {t : TypeId} {cs : Array Value} (h : At w b t cs) : ∀ (j : Nat) (ob : Obj), some b = some j → w.heap[j]? = some ob → ob.isCells = true := by
  intro j ob e hh
  cases e
  unfold At at h
  rw [h] at hh
  cases hh; rfl
theorem own_cells {w : World} {base : Nat} {e : TypeId} {size n : Nat} {v : Value} {cs : List Value} (h : w.ownsRow base e size v n cs) : ∀ (j : Nat) (ob : Obj), v.ownBlock = some j → w.heap[j]? = some ob → ob.isCells = true := by
  intro j ob e1 hh
  rcases h.2 with ⟨rfl, _⟩ | ⟨g, cap, cur, rfl, _, hg, _⟩
  · cases e1
  · cases e1
    rw [hg] at hh
    cases hh; rfl
theorem SwW.step {t1 t2 t3 t4 e : TypeId} (he1 : e ≠ t1) (he2 : e ≠ t2) (he3 : e ≠ t3) (he4 : e ≠ t4) {fv : Value} {w : World} {B b : Nat} {A A3 W5 : World} {ps qs : List (Nat × Nat)} {g g2 : Nat → Nat} {o o' : Value} {cs : Array Value}
    (h : SwW t1 t2 t3 t4 e fv w B b A ps g o) (hb : b < w.heap.size) (hB : w.heap.size + 3 ≤ B) (hA3 : At A3 b t4 (gC g2)) (hg3 : A.drew.grownBy A3 (some b))
    (hown5 : W5.ownsRow B e 3 o' (swL (ps ++ qs)).length (scells (swL (ps ++ qs)))) (hgrow5 : (A3.alloc (.cells cs e)).grownBy W5 o.ownBlock) :
    At W5 (w.heap.size + 1) t2 #[o] ∧ SwW t1 t2 t3 t4 e fv w B b (W5.setCell ⟨w.heap.size + 1, 0, none⟩ o') (ps ++ qs) g2 o' ∧ KeepsOthers A (W5.setCell ⟨w.heap.size + 1, 0, none⟩ o') := by
  obtain ⟨h1, h2, h3, h4, h5, h6⟩ := h
  have hsz := h6.size
  have g1 : At A.drew w.heap.size t1 #[.pointer (some ⟨b, 0, none⟩)] := h1
  have g2' : At A.drew (w.heap.size + 1) t2 #[o] := h2
  have g3 : At A.drew (w.heap.size + 1 + 1) t3 #[fv] := h3
  have g4 : A.drew.ownsRow B e 3 o (swL ps).length (scells (swL ps)) := h4
  have k1 := (at_grown' g1 hg3 (fun e => by cases e; omega)).alloc (.cells cs e)
  have k2 := (at_grown' g2' hg3 (fun e => by cases e; omega)).alloc (.cells cs e)
  have k3 := (at_grown' g3 hg3 (fun e => by cases e; omega)).alloc (.cells cs e)
  have hbe := own_block_ge h4
  have k4 := own_keep (own_grown g4 hg3 (.inl fun e => by have := hbe b e; omega)) ((Below.refl A3.heap.size A3).alloc (Nat.le_refl _) (.cells cs e))
  have k5 := hA3.alloc (.cells cs e)
  have m1 := at_grown' k1 hgrow5 (box_apart k4 k1 he1)
  have m2 := at_grown' k2 hgrow5 (box_apart k4 k2 he2)
  have m3 := at_grown' k3 hgrow5 (box_apart k4 k3 he3)
  have m5 := at_grown' k5 hgrow5 (box_apart k4 k5 he4)
  have hs5 := grownBy_setCell' W5 (w.heap.size + 1) o'
  have hne5 := box_apart hown5 m2 he2
  refine ⟨m2, ⟨at_grown' m1 hs5 (by simp), m2.set 0 _, at_grown' m3 hs5 (by simp), hown5.kept hs5 (.inr hne5.symm), at_grown' m5 hs5 (fun e => by cases e; omega), ?_⟩, ?_⟩
  · have hz3 := hg3.size
    have hz5 := hgrow5.size
    simp only [World.size_alloc] at hz5
    have hzd : A.drew.heap.size = A.heap.size := rfl
    refine ⟨hs5.os.trans (hgrow5.os.trans (hg3.os.trans h6.os)), hs5.tape.trans (hgrow5.tape.trans (hg3.tape.trans h6.tape)), hs5.output.trans (hgrow5.output.trans (hg3.output.trans h6.output)), by have := hs5.size; omega, fun i hi hne => ?_⟩
    rw [hs5.block i (by omega) (fun e => by cases e; omega), hgrow5.block i (by simp only [World.size_alloc]; omega) (fun e => by have := hbe i e.symm; omega)]
    rw [Below.heap_alloc A3 _ _ (by omega), hg3.block i (by omega) hne]
    exact h6.block i hi hne
  · have q1 : KeepsOthers A A3 := (KeepsOthers.drew A).trans (KeepsOthers.of_grownBy hg3 (at_cells (w := A.drew) h5))
    exact ((q1.trans (KeepsOthers.alloc A3 _)).trans (KeepsOthers.of_grownBy hgrow5 (own_cells k4))).trans (KeepsOthers.setCell _ _ _)
def RsR (t1 t2 t3 t4 e : TypeId) (fv : Value) (w : World) (B b : Nat) (W : World) (tot : List (Nat × Nat)) (ge : Nat → Nat) (k : Nat) (pv nv : Value) (A : World) : Prop :=
  ∃ (q : Nat) (ps : List (Nat × Nat)) (g : Nat → Nat) (o : Value), pv = .int .i64 q ∧ nv = .int .i64 (hold g q : Nat) ∧ q < 9 ∧ Prm g ∧ muG g ≤ k ∧ ps ++ (rsW k g q).1 = tot ∧ (rsW k g q).2 = ge ∧ SwW t1 t2 t3 t4 e fv w B b A ps g o ∧ KeepsOthers W A
end Go.PS
namespace Go.Proofs.YtfedloljhocpgaaGreatDoor
open Go.RowKit Go.PM Go.PS Go.Lib
attribute [local go_sem] Oper.semAt_some

set_option maxRecDepth 100000 in
set_option maxHeartbeats 4000000 in
theorem ringSwaps_c (g : Nat → Nat) (hg : Prm g) (b : Nat) (w : World) (hA : At w b 130 (gC g)) :
    Calls Tryz.prog 48 #[.pointer (some ⟨b, 0, none⟩)] w fun e w' => ∃ v', e = .returned v' ∧ w'.ownsRow w.heap.size 58 3 v' (swL (rsA 9 g).1).length (scells (swL (rsA 9 g).1)) ∧ w.grownBy w' (some b) := by
  have hbl := hA.lt
  have HP := Lib.hid (fun k hk => rsA_prm hg k hk)
  have HLE := Lib.hid (fun k hk => rsA_le hg k hk)
  refine (callsIn_wide (n := 5)).1 ?_
  refine callsIn_of_wp_marks Tryz.func48 rfl trivial ?_ rfl
  simp only [Tryz.ntmps48, List.size_toArray, List.length_cons, List.length_nil, Nat.reduceAdd, Nat.reduceSub, Array.replicate_succ, Array.replicate_zero, List.push_toArray, List.append_toArray, List.nil_append, List.cons_append]
  gi_wp2
  obtain ⟨W0, hW0⟩ : ∃ W0 : World, W0 = (((w.alloc (.cells #[.pointer (some ⟨b, 0, none⟩)] 76)).alloc (.cells #[.slice none 0 0] 25)).alloc (.cells #[.func (.func 102) #[.pointer (some ⟨b, 0, none⟩)] #[]] 131)) := ⟨_, rfl⟩
  have hS0 : W0.heap.size = w.heap.size + 3 := by rw [hW0]; simp only [World.size_alloc]
  have hB0 : Below w.heap.size w W0 := by rw [hW0]; (repeat' (first | (with_reducible exact Below.refl _ _) | (with_reducible assumption) | (with_reducible refine Below.alloc ?_ ?_ _) | (with_reducible refine Below.drew ?_) | (with_reducible refine Below.setCell ?_ ?_ _) | (with_reducible exact Nat.le_refl _) | omega | ((repeat (first | rewrite [World.size_alloc] | rewrite [World.size_setCell] | rewrite [World.size_drew])); omega) | (simp; omega) | (simp; done)))
  have hI0 : SwW 76 25 131 130 58 (.func (.func 102) #[.pointer (some ⟨b, 0, none⟩)] #[]) w (W0.heap.size + 2) b W0 (rsA 0 g).1 (rsA 0 g).2 (.slice none 0 0) := by
    rw [hW0]
    refine ⟨((At.new _ _ _).alloc _).alloc _, ?_, ?_, ⟨rfl, .inl ⟨rfl, rfl⟩⟩, ((hA.alloc _).alloc _).alloc _, ?_⟩
    · have := (At.new (w.alloc (.cells #[.pointer (some ⟨b, 0, none⟩)] 76)) 25 #[.slice none 0 0]).alloc (.cells #[.func (.func 102) #[.pointer (some ⟨b, 0, none⟩)] #[]] 131)
      rwa [World.size_alloc] at this
    · have := At.new ((w.alloc (.cells #[.pointer (some ⟨b, 0, none⟩)] 76)).alloc (.cells #[.slice none 0 0] 25)) 131 #[.func (.func 102) #[.pointer (some ⟨b, 0, none⟩)] #[]]
      rwa [World.size_alloc, World.size_alloc] at this
    · rw [← hW0]; exact grown_below hB0 _
  rw [← hW0]
  clear hW0
  refine range_law (F := Fence.wide) (gf := 56) (lf := #[.int .i64 9]) (lb := #[]) rfl (by decide) rfl trivial (fun args w => rfl) (encs := fun p : Nat => #[.int .i64 p]) (xs := List.range 9)
    (below_iter _ _ trivial rfl (by decide)) (fun _ => rfl)
    (fun pre W => ∃ o, SwW 76 25 131 130 58 (.func (.func 102) #[.pointer (some ⟨b, 0, none⟩)] #[]) w (W0.heap.size + 2) b W (rsA pre.length g).1 (rsA pre.length g).2 o)
    (fun _ _ _ => False) ?_ (fun _ => ownFrom_pure _ _) ?_ (fun p => { tmps := #[.pointer (some ⟨b, 0, none⟩), .pointer (some ⟨w.heap.size, 0, none⟩), .slice none 0 0, .pointer (some ⟨w.heap.size + 1, 0, none⟩), .pointer (some ⟨w.heap.size + 1 + 1, 0, none⟩), .int .i64 p, undef, undef, .pointer (some ⟨b, 0, none⟩), .func (.func 102) #[.pointer (some ⟨b, 0, none⟩)] #[], .func (.func 56) #[.int .i64 9] #[], .int .i64 p, undef, undef, undef, undef, undef, undef, undef, undef, undef, undef, undef, undef, undef, undef, undef, undef, undef, undef, undef], defers := [] }) ?_ ?_ ?_ ?_
  · rintro s A A' row ⟨o, h⟩ hg hr
    exact ⟨o, h.turn hg (fun r e => ⟨by have := (hr r e).1; omega, (hr r e).2⟩)⟩
  · exact ⟨_, hI0⟩
  · intro l p W Kc hK
    gi_wp2
    exact hK
  · clear hI0
    rintro l pre p W ⟨o, hI⟩ hp hsz
    obtain ⟨hl, hp9⟩ := pre_len pre p hp
    rw [hl] at hI
    have HL : Hid ((pre ++ [p]).length = p + 1) := by show _ = _; simp [hl]
    have hP := HP.out p (by omega)
    have HT1 : Hid ((rsA p g).1 ++ (rsW 9 (rsA p g).2 p).1 = (rsA (p + 1) g).1) := rfl
    have HT2 : Hid ((rsW 9 (rsA p g).2 p).2 = (rsA (p + 1) g).2) := rfl
    have HLN := Lib.hid (HLE.out (p + 1) (by omega))
    obtain ⟨tot, htot0⟩ : ∃ tot, tot = (rsA (p + 1) g).1 := ⟨_, rfl⟩
    obtain ⟨ge, hge0⟩ : ∃ ge, ge = (rsA (p + 1) g).2 := ⟨_, rfl⟩
    have HA1 : Hid ((rsA (p + 1) g).1 = tot) := htot0.symm
    have HA2 : Hid ((rsA (p + 1) g).2 = ge) := hge0.symm
    rw [← htot0] at HT1 HLN
    rw [← hge0] at HT2
    clear htot0 hge0
    generalize (rsA p g).1 = ps0 at *
    generalize (rsA p g).2 = g0 at *
    have hII := hI
    obtain ⟨h1, h2, h3, h4, h5, h6⟩ := hI
    have c1 : W.cell? ⟨w.heap.size, 0, none⟩ = some (.pointer (some ⟨b, 0, none⟩)) := h1.cell 0
    have hbl1 := h1.lt
    have HH := Lib.hid (holder_c g0 hP b p hp9 W h5)
    clear h1 h2 h3 h4 h5 h6
    gi_wp2_with fail
    refine ⟨trivial, ?_⟩
    refine CallsIn.inRound l (callsIn_wide.2 (HH.out.mono ?_))
    rintro e wq ⟨rfl, rfl⟩
    gi_wp2

    gi_loopw [6, 7] (fun pv nv wr => ∃ k, RsR 76 25 131 130 58 (.func (.func 102) #[.pointer (some ⟨b, 0, none⟩)] #[]) w (W0.heap.size + 2) b W tot ge k pv nv wr)
      (fun pv nv wr => PW.least (fun k => RsR 76 25 131 130 58 (.func (.func 102) #[.pointer (some ⟨b, 0, none⟩)] #[]) w (W0.heap.size + 2) b W tot ge k pv nv wr))
    case atStart => exact ⟨9, p, ps0, g0, o, rfl, rfl, hp9, hP, muG_le g0, HT1.out, HT2.out, hII, KeepsOthers.refl W⟩
    case round =>
      obtain ⟨hru, _⟩ := PW.least_spec hrel
      generalize hkk : PW.least (fun k => RsR 76 25 131 130 58 (.func (.func 102) #[.pointer (some ⟨b, 0, none⟩)] #[]) w (W0.heap.size + 2) b W tot ge k u6 u7 wr) = kk at *
      have HKK := Lib.hid hkk
      clear hrel hkk
      obtain ⟨q, ps, g1, o1, rfl, rfl, hq9, hP1, hmu, htot, hge, hS, hKO⟩ := hru
      have hh := hP1.hold hq9
      by_cases hst : hold g1 q = q
      · rw [rsW_stop _ hst] at htot hge
        have htot' : ps = tot := by simpa using htot
        have hge' : g1 = ge := hge
        have FIN : Hid (∃ o, SwW 76 25 131 130 58 (.func (.func 102) #[.pointer (some ⟨b, 0, none⟩)] #[]) w (W0.heap.size + 2) b wr tot ge o) := ⟨o1, by rw [← htot', ← hge']; exact hS⟩
        have t1 : (((hold g1 q : Nat) : Int) != ((q : Nat) : Int)) = false := by rw [hst]; simp
        clear htot hge htot' hge' hS hst
        generalize hold g1 q = n1 at *
        gi_wp2
        refine ⟨hKO.from _, KeepsIn.zero hKO.size, ?_⟩
        have FIN2 := FIN.out
        rw [← HA1.out, ← HA2.out, ← HL.out] at FIN2
        exact FIN2
      · obtain ⟨k, rfl⟩ : ∃ k', kk = k' + 1 := ⟨kk - 1, by have := muG_step hP1 hq9 hst; omega⟩
        rw [rsW_go _ hst] at htot hge
        have hmu2 := muG_step hP1 hq9 hst
        have hpl : ps.length ≤ 9 := by
          have h1 := congrArg List.length htot
          rw [List.length_append] at h1
          have := HLN.out; omega
        have hP2 := hP1.swp hq9 hh.1
        have hSS := hS
        obtain ⟨h1, h2, h3, h4, h5, h6⟩ := hS
        have t1 : (((hold g1 q : Nat) : Int) != ((q : Nat) : Int)) = true := by rw [bne_iff_ne]; omega
        have hst' : q ≠ hold g1 q := fun e => hst e.symm
        have HSWAP := Lib.hid (swap_c g1 b q (hold g1 q) hq9 hh.1 hst' wr.drew h5)
        have c2 : wr.drew.cell? ⟨w.heap.size + 1, 0, none⟩ = some o1 := h2.cell 0
        have c3 : wr.drew.cell? ⟨w.heap.size + 1 + 1, 0, none⟩ = some (.func (.func 102) #[.pointer (some ⟨b, 0, none⟩)] #[]) := h3.cell 0
        have hz6 := h6.size
        have l2 := h2.lt
        have l3 := h3.lt
        have HNX : Hid (∀ A o, SwW 76 25 131 130 58 (.func (.func 102) #[.pointer (some ⟨b, 0, none⟩)] #[]) w (W0.heap.size + 2) b A (ps ++ [(q, hold g1 q)]) (swp g1 q (hold g1 q)) o → KeepsOthers W A → RsR 76 25 131 130 58 (.func (.func 102) #[.pointer (some ⟨b, 0, none⟩)] #[]) w (W0.heap.size + 2) b W tot ge k (.int .i64 (hold g1 q : Nat)) (.int .i64 (hold (swp g1 q (hold g1 q)) (hold g1 q) : Nat)) A) := fun A o hA hK =>
          ⟨hold g1 q, _, _, o, rfl, rfl, hh.1, hP2, by omega, by rw [← htot]; simp, hge, hA, hK⟩
        have hn9 := hh.1
        have HP2 := Lib.hid hP2
        clear htot hge hst hst' h1 h2 h3 h5 hh hP1 hP2 hmu2 hmu
        generalize swp g1 q (hold g1 q) = g2 at *
        generalize hold g1 q = n1 at *
        gi_wp2
        refine region_late2_inRound (F := Fence.wide) (C := fun w' => w' = wr.drew) (D := fun w' => w'.cell? ⟨w.heap.size + 1, 0, none⟩ = some o1) 4 2 rfl (by kernel_rfl) (by kernel_rfl) (by kernel_rfl) _ (by rfl) (by simp) o1 (fun _ _ _ h => h) (yieldsD_load (by rfl) _ _ (by rfl) _ Tryz.underlying25 _ (by rfl) o1) (fun w' hw => by subst hw; exact c2) rfl ?_
        simp only [List.take_succ_cons, List.take_zero, List.drop_succ_cons, List.drop_zero, Nat.reduceSub, Nat.reduceAdd]
        simp only [Act.put, List.setIfInBounds_toArray, List.set_cons_succ, List.set_cons_zero]
        gi_big_quiet_step (fail)
        gi_big_quiet_step (fail)
        gi_big_quiet_step (fail)
        refine wpQuietIn_nil ?_
        intro w' hw'
        subst hw'
        refine ⟨c2, op_k (fun K hK => ?_)⟩
        go_simp
        refine ⟨trivial, callsIn_wide.2 (HSWAP.out.mono ?_)⟩
        rintro e w3 ⟨rfl, hA3, hg3⟩
        refine hK _ _ ?_
        clear hK K
        have d2 : w3.cell? ⟨w.heap.size + 1, 0, none⟩ = some o1 := hg3.cell c2 (by show some (w.heap.size + 1) ≠ some b; intro e; cases e; omega)
        have hz3 := hg3.size
        refine ⟨d2, ?_⟩
        refine sliceIn_st (.tmp 26) rfl 1 (nm q) (nm n1) (by rfl) ?_
        have hal : Below w3.heap.size w3 (w3.alloc (.cells #[.int .i64 1, .string (nm q), .string (nm n1)] 58)) := (Below.refl _ _).alloc (Nat.le_refl _) _
        have l2d : w.heap.size + 1 < w3.heap.size := by have : wr.drew.heap.size = wr.heap.size := rfl; omega
        refine ⟨(hal.cell (p := ⟨w.heap.size + 1, 0, none⟩) l2d).trans d2, ?_⟩
        have hbe := own_block_ge h4
        have h4d : wr.drew.ownsRow (W0.heap.size + 2) 58 3 o1 (swL ps).length (scells (swL ps)) := h4
        have h4a := own_keep (own_grown h4d hg3 (.inl fun e => by have := hbe b e; omega)) hal
        refine listIn_st rfl (.tmp 22) (.tmp 27) rfl (W0.heap.size + 2) o1 (swL ps) (1, nm q, nm n1) ⟨w3.heap.size, 0, none⟩ 1 (by rfl) (by rfl) h4a (three_new w3 _ _ _ _) (by rw [swL_len]; omega) (by have := hKO.size; have : wr.drew.heap.size = wr.heap.size := rfl; simp; omega) ?_
        intro o' W5 hown5 hgrow5
        have hown5' : W5.ownsRow (W0.heap.size + 2) 58 3 o' (swL (ps ++ [(q, n1)])).length (scells (swL (ps ++ [(q, n1)]))) := by rw [swL_app]; exact hown5
        obtain ⟨k2, hS5, hKO5⟩ := SwW.step (by decide) (by decide) (by decide) (by decide) hSS hbl (by omega) hA3 hg3 hown5' hgrow5
        have d3 := k2.cell 0
        have d4 := k2.frozen 0
        have l5 := k2.lt
        have hS5' := hS5
        obtain ⟨e1, e2, e3, e4, e5, e6⟩ := hS5'
        have e1' : At W5 w.heap.size 76 #[.pointer (some ⟨b, 0, none⟩)] := (heap_setCell_other W5 ⟨w.heap.size + 1, 0, none⟩ w.heap.size o' (by show w.heap.size ≠ w.heap.size + 1; omega)).symm.trans e1
        have f1 : W5.cell? ⟨w.heap.size, 0, none⟩ = some (.pointer (some ⟨b, 0, none⟩)) := e1'.cell 0
        have f1l := e1'.lt
        have hR := HNX.out _ _ hS5 (hKO.trans hKO5)
        have HHN := Lib.hid (holder_c g2 HP2.out b n1 hn9 _ e5)
        rw [show (swL ps ++ [((1, nm q, nm n1) : St)]).length = (swL ps).length + 1 by simp] at hown5
        obtain ⟨A5, cap5, rfl, _⟩ := Rd.of_own hown5
        clear e1' e1 e2 e3 e4 e5 e6 hS5 hKO5 hown5 hown5' hgrow5 h4d h4a hal d2 c2 c3 hA3 hg3 h4 h6 hSS HNX HSWAP hz3 k2
        gi_wp2_with fail
        refine ⟨trivial, ?_⟩
        refine CallsIn.inRound l (callsIn_wide.2 (HHN.out.mono ?_))
        rintro e wq ⟨rfl, rfl⟩
        gi_wp2
        go_roundw
        case rel => exact ⟨k, hR⟩
        case measure =>
          rw [HKK.out]
          have := (PW.least_spec (P := fun k => RsR 76 25 131 130 58 (.func (.func 102) #[.pointer (some ⟨b, 0, none⟩)] #[]) w (W0.heap.size + 2) b W tot ge k _ _ _) ⟨k, hR⟩).2 _ hR
          omega
  · intro D W hD hI hd
    obtain ⟨o, h1, h2, h3, h4, h5, h6⟩ := hI
    have c3 : W.cell? ⟨w.heap.size + 1, 0, none⟩ = some o := h2.cell 0
    have hDD : w.heap.size + 3 ≤ D := by omega
    clear h1 h2 h3 h5 hI0
    gi_wp2
    refine ⟨by simp, .inl ⟨D, _, rfl, run_takeDeferred hd, ?_⟩⟩
    refine ⟨_, results_tmp rfl _ _ _, _, rfl, own_more (row_turn h4 (grownBy_putObj' W D _) (fun r e => by cases e; exact ⟨_, hd, rfl⟩)) (by omega), ?_⟩
    refine ⟨h6.os, h6.tape, h6.output, by simp [World.putObj]; exact h6.size, fun i hi hne => ?_⟩
    rw [World.putObj_heap_other (by omega)]
    exact h6.block i hi hne
  · intro _ _ _ _ _ _ hf
    exact hf.elim
end Go.Proofs.YtfedloljhocpgaaGreatDoor
namespace Go.PS
open Go.PM Go.RowKit
theorem SwW.drew {t1 t2 t3 t4 e : TypeId} {fv : Value} {w : World} {B b : Nat} {A : World} {ps : List (Nat × Nat)} {g : Nat → Nat} {o : Value} (h : SwW t1 t2 t3 t4 e fv w B b A ps g o) : SwW t1 t2 t3 t4 e fv w B b A.drew ps g o :=
  ⟨h.1, h.2.1, h.2.2.1, h.2.2.2.1, h.2.2.2.2.1, ⟨h.2.2.2.2.2.os, h.2.2.2.2.2.tape, h.2.2.2.2.2.output, h.2.2.2.2.2.size, h.2.2.2.2.2.block⟩⟩
end Go.PS
namespace Go.Proofs.YtfedloljhocpgaaGreatDoor
open Go.RowKit Go.PM Go.PS Go.Lib
attribute [local go_sem] Oper.semAt_some

end Go.Proofs.YtfedloljhocpgaaGreatDoor
namespace Go.PM
section
variable {F : Fence} {n : Nat} {P : Program} {b : Frame} {a : Act} {k : List Item} {cs : List Frame} {w : World} {Q : Exit → Act → World → Prop}
theorem stepR_scope {c : Code} : step P (lone (b.atR a (.code (.scope c) :: k)) cs w) = .next (lone (b.atR a (.code c :: .inScope c :: k)) cs w) :=
  step_lone_go (by simp [stepG, stepG.exec, Frame.atR])
theorem stepR_inScope {c : Code} : step P (lone (b.atR a (.inScope c :: k)) cs w) = .next (lone (b.atR a k) cs w) :=
  step_lone_go (by simp [stepG, stepG.exec, Frame.atR])
theorem wpIn_scope {c : Code} (h : c.wpIn F n P (Exit.noGoto Q) a w) : (Code.scope c).wpIn F n P Q a w := by
  intro b k cs hro hb hr
  have h0 : (lone (b.atR a (.code (.scope c) :: k)) cs w).fenced P F := fenced_calm hb hr rfl
  obtain ⟨e, a₁, w₁, hq, harr⟩ := h b (.inScope c :: k) cs hro hb hr
  cases e with
  | normal => exact ⟨.normal, a₁, w₁, hq, .head h0 stepR_scope (StepsIn.trans harr (.one (fenced_calm hb hr rfl) stepR_inScope))⟩
  | exit id' =>
    have hx : exitTo id' (.inScope c :: k) = exitTo id' k := by simp [exitTo]
    exact ⟨.exit id', a₁, w₁, hq, fun k' hk => .head h0 stepR_scope (harr.1 k' (by rw [hx]; exact hk)),
      fun hr' hk => let ⟨k₁, h1, h2⟩ := harr.2 hr' (by rw [hx]; exact hk); ⟨k₁, h1, .head h0 stepR_scope h2⟩⟩
  | goto l => exact hq.elim
  | ret => exact ⟨_, a₁, w₁, hq, .of_steps (.one h0 stepR_scope) harr⟩
  | panic ch => exact ⟨_, a₁, w₁, hq, .of_steps (.one h0 stepR_scope) harr⟩
  | outgrown => exact ⟨_, a₁, w₁, hq, .of_steps (.one h0 stepR_scope) harr⟩
end
end Go.PM
namespace Go.PS
open Go.PM Go.RowKit
def NbW (t1 t2 t4 e : TypeId) (w : World) (B b : Nat) (A : World) (ps : List (Nat × Nat)) (g : Nat → Nat) (o : Value) : Prop :=
  At A w.heap.size t1 #[.pointer (some ⟨b, 0, none⟩)] ∧ At A (w.heap.size + 1) t2 #[o] ∧ A.ownsRow B e 3 o (swL ps).length (scells (swL ps)) ∧ At A b t4 (gC g) ∧ w.grownBy A (some b)
theorem NbW.turn {t1 t2 t4 e : TypeId} {w : World} {B b : Nat} {A A' : World} {ps : List (Nat × Nat)} {g : Nat → Nat} {o : Value} {row : Option Nat} (h : NbW t1 t2 t4 e w B b A ps g o) (hg : A.grownBy A' row) (hr : ∀ r, row = some r → w.heap.size ≤ r ∧ ∃ ob : Obj, A.heap[r]? = some ob ∧ ob.isCells = false) : NbW t1 t2 t4 e w B b A' ps g o := by
  obtain ⟨h1, h2, h4, h5, h6⟩ := h
  refine ⟨at_turn h1 hg (fun r e => (hr r e).2), at_turn h2 hg (fun r e => (hr r e).2), row_turn h4 hg (fun r e => (hr r e).2), at_turn h5 hg (fun r e => (hr r e).2), ?_⟩
  refine ⟨hg.os.trans h6.os, hg.tape.trans h6.tape, hg.output.trans h6.output, Nat.le_trans h6.size hg.size, fun i hi hne => ?_⟩
  rw [hg.block i (by have := h6.size; omega) (fun e => by have := (hr i e.symm).1; omega)]
  exact h6.block i hi hne
theorem NbW.drew {t1 t2 t4 e : TypeId} {w : World} {B b : Nat} {A : World} {ps : List (Nat × Nat)} {g : Nat → Nat} {o : Value} (h : NbW t1 t2 t4 e w B b A ps g o) : NbW t1 t2 t4 e w B b A.drew ps g o :=
  ⟨h.1, h.2.1, h.2.2.1, h.2.2.2.1, ⟨h.2.2.2.2.os, h.2.2.2.2.tape, h.2.2.2.2.output, h.2.2.2.2.size, h.2.2.2.2.block⟩⟩
theorem NbW.step {t1 t2 t4 e : TypeId} (he1 : e ≠ t1) (he2 : e ≠ t2) (he4 : e ≠ t4) {w : World} {B b : Nat} {A A3 W5 : World} {ps qs : List (Nat × Nat)} {g g2 : Nat → Nat} {o o' : Value}
    (h : NbW t1 t2 t4 e w B b A ps g o) (hb : b < w.heap.size) (hB : w.heap.size ≤ B) (hs0 : w.heap.size + 2 ≤ A.heap.size) (hA3 : At A3 b t4 (gC g2)) (hg3 : A.drew.grownBy A3 (some b))
    (hown5 : W5.ownsRow B e 3 o' (swL (ps ++ qs)).length (scells (swL (ps ++ qs)))) (hgrow5 : A3.grownBy W5 o.ownBlock) :
    At W5 (w.heap.size + 1) t2 #[o] ∧ NbW t1 t2 t4 e w B b (W5.setCell ⟨w.heap.size + 1, 0, none⟩ o') (ps ++ qs) g2 o' ∧ KeepsOthers A (W5.setCell ⟨w.heap.size + 1, 0, none⟩ o') := by
  obtain ⟨h1, h2, h4, h5, h6⟩ := h
  have hsz := h6.size
  have g1 : At A.drew w.heap.size t1 #[.pointer (some ⟨b, 0, none⟩)] := h1
  have g2' : At A.drew (w.heap.size + 1) t2 #[o] := h2
  have g4 : A.drew.ownsRow B e 3 o (swL ps).length (scells (swL ps)) := h4
  have k1 := at_grown' g1 hg3 (fun e => by cases e; omega)
  have k2 := at_grown' g2' hg3 (fun e => by cases e; omega)
  have hbe := own_block_ge h4
  have k4 := own_grown g4 hg3 (.inl fun e => by have := hbe b e; omega)
  have m1 := at_grown' k1 hgrow5 (box_apart k4 k1 he1)
  have m2 := at_grown' k2 hgrow5 (box_apart k4 k2 he2)
  have m5 := at_grown' hA3 hgrow5 (box_apart k4 hA3 he4)
  have hs5 := grownBy_setCell' W5 (w.heap.size + 1) o'
  have hne5 := box_apart hown5 m2 he2
  refine ⟨m2, ⟨at_grown' m1 hs5 (by simp), m2.set 0 _, hown5.kept hs5 (.inr hne5.symm), at_grown' m5 hs5 (fun e => by cases e; omega), ?_⟩, ?_⟩
  · have hz3 := hg3.size
    have hz5 := hgrow5.size
    have hzd : A.drew.heap.size = A.heap.size := rfl
    refine ⟨hs5.os.trans (hgrow5.os.trans (hg3.os.trans h6.os)), hs5.tape.trans (hgrow5.tape.trans (hg3.tape.trans h6.tape)), hs5.output.trans (hgrow5.output.trans (hg3.output.trans h6.output)), by have := hs5.size; omega, fun i hi hne => ?_⟩
    rw [hs5.block i (by omega) (fun e => by cases e; omega), hgrow5.block i (by omega) (fun e => by have := hbe i e.symm; omega), hg3.block i (by omega) hne]
    exact h6.block i hi hne
  · have q1 : KeepsOthers A A3 := (KeepsOthers.drew A).trans (KeepsOthers.of_grownBy hg3 (at_cells (w := A.drew) h5))
    exact (q1.trans (KeepsOthers.of_grownBy hgrow5 (own_cells k4))).trans (KeepsOthers.setCell _ _ _)
def Marks (w : World) (ds : List Nat) (A : World) : Prop := ds.Nodup ∧ ∀ D ∈ ds, w.heap.size + 2 ≤ D ∧ A.heap[D]? = some (.deferred (some []))
theorem Marks.keep {w : World} {ds : List Nat} {A A' : World} (h : Marks w ds A) (hk : KeepsOthers A A') : Marks w ds A' :=
  ⟨h.1, fun D hD => ⟨(h.2 D hD).1, hk.same D _ (h.2 D hD).2 rfl⟩⟩
theorem Marks.turn {w : World} {ds : List Nat} {A A' : World} {row : Option Nat} {N : Nat} (h : Marks w ds A) (hlt : ∀ D ∈ ds, D < N) (hg : A.grownBy A' row) (hr : ∀ r, row = some r → N ≤ r) : Marks w ds A' :=
  ⟨h.1, fun D hD => ⟨(h.2 D hD).1, (hg.block D (Array.getElem?_eq_some_iff.1 (h.2 D hD).2).1 (fun e => by have := hr D e.symm; have := hlt D hD; omega)).trans (h.2 D hD).2⟩⟩
theorem Marks.lt {w : World} {ds : List Nat} {A : World} (h : Marks w ds A) : ∀ D ∈ ds, D < A.heap.size := fun D hD => (Array.getElem?_eq_some_iff.1 (h.2 D hD).2).1
end Go.PS
namespace Go.Proofs.YtfedloljhocpgaaGreatDoor
open Go.RowKit Go.PM Go.PS Go.Lib
attribute [local go_sem] Oper.semAt_some

end Go.Proofs.YtfedloljhocpgaaGreatDoor
namespace Go.PS
open Go.PM Go.RowKit
theorem bkF_idx {f : Nat → ByteArray} (h : Exch (srcT f)) {q : Nat} (hq : q < 9) : isP (bkF f 9 q) = true ∧ pidx (bkF f 9 q) = invI (srcT f) q := by
  have h1 := h.inv hq
  have h2 := bkF_at h 9 (Nat.le_refl _) _ h1.1
  rw [h1.2, pidx_nm hq] at h2
  rw [h2]
  exact ⟨isP_nm h1.1, pidx_nm h1.1⟩
def halfG (g : Nat → Nat) (k : Nat) : Nat → Nat := fun p => if p < k then g p else 0
theorem halfG_step (g : Nat → Nat) (k : Nat) : setN (halfG g k) k (g k) = halfG g (k + 1) := by
  funext x
  show (if x = k then g k else if x < k then g x else 0) = if x < k + 1 then g x else 0
  by_cases h1 : x = k
  · subst h1; rw [if_pos rfl, if_pos (by omega)]
  · rw [if_neg h1]
    by_cases h2 : x < k
    · rw [if_pos h2, if_pos (by omega)]
    · rw [if_neg h2, if_neg (by omega)]
theorem halfG_full (g : Nat → Nat) : gC (halfG g 9) = gC g := gC_congr fun p hp => by
  show (if p < 9 then g p else 0) = g p
  rw [if_pos hp]
end Go.PS
namespace Go.Proofs.YtfedloljhocpgaaGreatDoor
open Go.RowKit Go.PM Go.PS Go.Lib
attribute [local go_sem] Oper.semAt_some

set_option maxRecDepth 100000 in
set_option maxHeartbeats 4000000 in
theorem permutationOf_c (f : Nat → ByteArray) (hE : Exch (srcT f)) (w : World) :
    Calls Tryz.prog 47 #[tabX f] w fun e w' => ∃ b, e = .returned (.pointer (some ⟨b, 0, none⟩)) ∧ At w' b 130 (gC (invI (srcT f))) ∧ w.heap.size ≤ b ∧ Below w.heap.size w w' := by
  have HU := Lib.hid (fun W => undone_c f hE W)
  have HB := Lib.hid (fun q hq => bkF_idx hE (q := q) hq)
  clear hE
  generalize bkF f 9 = bk at *
  generalize invI (srcT f) = g at *
  refine (callsIn_wide (n := 5)).1 ?_
  refine callsIn_of_wp_marks Tryz.func47 rfl trivial ?_ rfl
  simp only [Tryz.ntmps47, List.size_toArray, List.length_cons, List.length_nil, Nat.reduceAdd, Nat.reduceSub, Array.replicate_succ, Array.replicate_zero, List.push_toArray, List.append_toArray, List.nil_append, List.cons_append]
  have hA0 : At (w.alloc (.cells (tabC f) 65)) w.heap.size 65 (tabC f) := At.new _ _ _
  gi_wp2_with (refine ldIn_row rfl 65 (.tmp 1) rfl w.heap.size 65 (tabC f) (hA0.alloc _) (by rfl) 9 9 Tryz.underlying65 (by kernel_rfl) ?_; refine held ?_)
  unfold Held
  have hP0 : At ((w.alloc (.cells (tabC f) 65)).alloc (.cells (gC (fun _ => 0)) 130)) (w.heap.size + 1) 130 (gC (fun _ => 0)) := by
    have := At.new (w.alloc (.cells (tabC f) 65)) 130 (gC (fun _ => 0))
    rwa [World.size_alloc] at this
  have hB0 : Below w.heap.size w ((w.alloc (.cells (tabC f) 65)).alloc (.cells (gC (fun _ => 0)) 130)) := ((Below.refl _ _).alloc (Nat.le_refl _) _).alloc (by simp) _
  clear hA0
  gi_wp2_with fail
  refine ⟨trivial, callsIn_wide.2 ((HU.out _).mono ?_)⟩
  rintro e w1 ⟨rfl, hb1⟩
  have hP1 := hP0.keep hb1
  have hB1 := hB0.trans (hb1.mono hB0.size)
  have hs1 := hB1.size
  have hPl := hP1.lt
  clear hP0 hB0 hb1
  gi_wp2_with fail
  obtain ⟨W0, hW0⟩ : ∃ W0 : World, W0 = ((w1.alloc (.cells #[.pointer (some ⟨w.heap.size + 1, 0, none⟩)] 76)).alloc (.cells (tabA bk) 65)) := ⟨_, rfl⟩
  have hS0 : W0.heap.size = w1.heap.size + 2 := by rw [hW0]; simp only [World.size_alloc]
  have hB0 : Below w.heap.size w W0 := by rw [hW0]; exact (hB1.alloc hs1 _).alloc (by simp; omega) _
  have hA0 : At W0 w1.heap.size 76 #[.pointer (some ⟨w.heap.size + 1, 0, none⟩)] := by rw [hW0]; exact (At.new _ _ _).alloc _
  have hA1 : At W0 (w1.heap.size + 1) 65 (tabA bk) := by
    rw [hW0]; have := At.new (w1.alloc (.cells #[.pointer (some ⟨w.heap.size + 1, 0, none⟩)] 76)) 65 (tabA bk)
    rwa [World.size_alloc] at this
  have hA2 : At W0 (w.heap.size + 1) 130 (gC (halfG g 0)) := by
    rw [hW0, show halfG g 0 = fun _ => 0 by funext x; simp [halfG]]; exact (hP1.alloc _).alloc _
  rw [← hW0]
  clear hW0 hP1 hB1
  refine range_law (F := Fence.wide) (gf := 56) (lf := #[.int .i64 9]) (lb := #[]) rfl (by decide) rfl trivial (fun args w => rfl) (encs := fun p : Nat => #[.int .i64 p]) (xs := List.range 9)
    (below_iter _ _ trivial rfl (by decide)) (fun _ => rfl)
    (fun pre W => At W (w.heap.size + 1) 130 (gC (halfG g pre.length)) ∧ At W w1.heap.size 76 #[.pointer (some ⟨w.heap.size + 1, 0, none⟩)] ∧ At W (w1.heap.size + 1) 65 (tabA bk) ∧ Below w.heap.size w W)
    (fun _ _ _ => False) ?_ (fun _ => ownFrom_pure _ _) ?_ (fun p => { tmps := #[tabX f, .pointer (some ⟨w.heap.size, 0, none⟩), .pointer none, .pointer (some ⟨w1.heap.size, 0, none⟩), .pointer (some ⟨w1.heap.size + 1, 0, none⟩), .int .i64 p, .pointer (some ⟨w.heap.size + 1, 0, none⟩), .agg (tabC f), tabX bk, .func (.func 56) #[.int .i64 9] #[], .int .i64 p, undef, undef, undef, undef, undef, undef, undef, undef, undef, undef, undef, undef], defers := [] }) ?_ ?_ ?_ ?_
  · rintro s A A' row ⟨h1, h2, h3, h4⟩ hg hr
    exact ⟨at_turn h1 hg (fun r e => (hr r e).2), at_turn h2 hg (fun r e => (hr r e).2), at_turn h3 hg (fun r e => (hr r e).2), h4.trans (below_grown hg h4.size (fun g e => by have := (hr g e).1; have := hB0.size; omega))⟩
  · exact ⟨hA2, hA0, hA1, hB0⟩
  · intro l p W Kc hK
    gi_wp2
    exact hK
  · clear hA0 hA1 hA2
    rintro l pre p W ⟨h1, h2, h3, h4⟩ hp hsz
    obtain ⟨hl, hp9⟩ := pre_len pre p hp
    rw [hl] at h1
    have HL : Hid ((pre ++ [p]).length = p + 1) := by show _ = _; simp [hl]
    obtain ⟨b1, b2⟩ := HB.out p hp9
    have HST := Lib.hid (halfG_step g p)
    have HSET := Lib.hid (gC_set (halfG g p) p hp9 (g p))
    have HIX := fun W' => indexOf_yes (bk p) b1 W'
    rw [b2] at HIX
    have hz4 := h4.size
    have l1 := h1.lt
    have l2 := h2.lt
    have l3 := h3.lt
    have i0 : (0 : Int) ≤ (p : Int) := by omega
    have i1 : (p : Int) < 9 := by omega
    have c2 : W.drew.cell? ⟨w1.heap.size, 0, none⟩ = some (.pointer (some ⟨w.heap.size + 1, 0, none⟩)) := h2.cell 0
    have c3 : W.drew.cell? ⟨w1.heap.size + 1, p, none⟩ = some (.string (bk p)) := (h3.cell p).trans (tabC_at bk p hp9)
    have c1 : W.drew.cell? ⟨w.heap.size + 1, p, none⟩ = some (.int .i64 (halfG g p p : Nat)) := (h1.cell p).trans (gC_at _ p hp9)
    have f1 : W.drew.frozen? ⟨w.heap.size + 1, p, none⟩ = false := h1.frozen p
    have fin : KeepsFrom W0.heap.size W (W.drew.setCell ⟨w.heap.size + 1, p, none⟩ (.int .i64 (g p : Nat))) ∧ KeepsIn (W0.heap.size + 2) 0 W (W.drew.setCell ⟨w.heap.size + 1, p, none⟩ (.int .i64 (g p : Nat))) ∧
        At (W.drew.setCell ⟨w.heap.size + 1, p, none⟩ (.int .i64 (g p : Nat))) (w.heap.size + 1) 130 (gC (halfG g (pre ++ [p]).length)) ∧
        At (W.drew.setCell ⟨w.heap.size + 1, p, none⟩ (.int .i64 (g p : Nat))) w1.heap.size 76 #[.pointer (some ⟨w.heap.size + 1, 0, none⟩)] ∧
        At (W.drew.setCell ⟨w.heap.size + 1, p, none⟩ (.int .i64 (g p : Nat))) (w1.heap.size + 1) 65 (tabA bk) ∧ Below w.heap.size w (W.drew.setCell ⟨w.heap.size + 1, p, none⟩ (.int .i64 (g p : Nat))) := by
      refine ⟨((KeepsOthers.drew W).trans (KeepsOthers.setCell _ _ _)).from _, KeepsIn.zero (by simp [World.size_setCell]), ?_, At.far (w := W.drew) h2 (by show w1.heap.size ≠ w.heap.size + 1; omega) _, At.far (w := W.drew) h3 (by show w1.heap.size + 1 ≠ w.heap.size + 1; omega) _, h4.drew.setCell (by show w.heap.size ≤ w.heap.size + 1; omega) _⟩
      rw [HL.out]
      have := At.set (w := W.drew) h1 p (.int .i64 (g p : Nat))
      rw [HSET.out, HST.out] at this
      exact this
    have FIN := Lib.hid fin
    clear fin h1 h2 h3 b1 b2 HL HB HST HSET
    generalize halfG g p p = oldv at *
    generalize g p = j at *
    generalize bk p = s at *
    gi_wp2
    refine region_inRound (F := Fence.wide) rfl (by kernel_rfl) (by kernel_rfl) ?_
    (refine wpAnyIn_take (i := 1) (v := ?_) rfl rfl (by kernel_rfl) (by kernel_rfl) (by kernel_rfl) (fun _ _ _ h => h) ⟨Or.inl ⟨by rfl, by intro w0; go_simp; try with_reducible rfl⟩, fun _ => rfl⟩ ?_)
    (refine wpAnyIn_take (i := 2) (v := ?_) rfl rfl (by kernel_rfl) (by kernel_rfl) (by kernel_rfl) (fun _ _ _ h => h) ⟨Or.inl ⟨by rfl, by intro w0; go_simp; try with_reducible rfl⟩, fun _ => rfl⟩ ?_)
    (refine wpAnyIn_take (i := 3) (v := ?_) rfl rfl (by kernel_rfl) (by kernel_rfl) (by kernel_rfl) (fun _ _ _ h => h) ⟨Or.inl ⟨by rfl, by intro w0; go_simp; try with_reducible rfl⟩, fun _ => rfl⟩ ?_)
    (refine wpAnyIn_ready (rs := [0, 4]) (by kernel_rfl) (by simp) ?_; refine AllReadyIn.cons rfl (fun Kr hKr => ?_) (AllReadyIn.cons rfl (fun Kr hKr => ?_) (AllReadyIn.nil)))
    · (go_simp; refine hKr _ _ ?_; clear hKr Kr)
      (refine wpAnyIn_take (i := 9) (v := ?_) rfl rfl (by kernel_rfl) (by kernel_rfl) (by kernel_rfl) (fun _ _ _ h => h) ⟨Or.inl ⟨by rfl, by intro w0; go_simp; try with_reducible rfl⟩, fun _ => rfl⟩ ?_)
      (refine wpAnyIn_ready (rs := [4]) (by kernel_rfl) (by simp) ?_; refine AllReadyIn.cons rfl (fun Kr hKr => ?_) (AllReadyIn.nil))
      (go_simp; refine hKr _ _ ?_; clear hKr Kr)
      (refine wpAnyIn_ready (rs := [5]) (by kernel_rfl) (by simp) ?_; refine AllReadyIn.cons rfl (fun Kr hKr => ?_) (AllReadyIn.nil))
      (go_simp; refine ⟨trivial, callsIn_wide.2 ((HIX _).mono ?_)⟩; rintro e wq ⟨rfl, rfl⟩; refine hKr _ _ ?_; clear hKr Kr)
      (refine wpAnyIn_take (i := 6) (v := ?_) rfl rfl (by kernel_rfl) (by kernel_rfl) (by kernel_rfl) (fun _ _ _ h => h) ⟨Or.inl ⟨by rfl, by intro w0; go_simp; try with_reducible rfl⟩, fun _ => rfl⟩ ?_)
      (refine wpAnyIn_take (i := 7) (v := ?_) rfl rfl (by kernel_rfl) (by kernel_rfl) (by kernel_rfl) (fun _ _ _ h => h) ⟨Or.inl ⟨by rfl, by intro w0; go_simp; try with_reducible rfl⟩, fun _ => rfl⟩ ?_)
      (refine wpAnyIn_take (i := 8) (v := ?_) rfl rfl (by kernel_rfl) (by kernel_rfl) (by kernel_rfl) (fun _ _ _ h => h) ⟨Or.inl ⟨by rfl, by intro w0; go_simp; try with_reducible rfl⟩, fun _ => rfl⟩ ?_)
      (refine wpAnyIn_take (i := 10) (v := ?_) rfl rfl (by kernel_rfl) (by kernel_rfl) (by kernel_rfl) (fun _ _ _ h => h) ⟨Or.inl ⟨by rfl, by intro w0; go_simp; try with_reducible rfl⟩, fun _ => rfl⟩ ?_)
      (refine wpAnyIn_ready (rs := [11]) (by kernel_rfl) (by simp) ?_; refine AllReadyIn.cons rfl (fun Kr hKr => ?_) (AllReadyIn.nil))
      (go_simp; refine hKr _ _ ?_; clear hKr Kr)
      refine wpAnyIn_done (by kernel_rfl) ?_ _
      exact FIN.out
    · (go_simp; refine hKr _ _ ?_; clear hKr Kr)
      (refine wpAnyIn_ready (rs := [0, 5]) (by kernel_rfl) (by simp) ?_; refine AllReadyIn.cons rfl (fun Kr hKr => ?_) (AllReadyIn.cons rfl (fun Kr hKr => ?_) (AllReadyIn.nil)))
      · (go_simp; refine hKr _ _ ?_; clear hKr Kr)
        (refine wpAnyIn_take (i := 9) (v := ?_) rfl rfl (by kernel_rfl) (by kernel_rfl) (by kernel_rfl) (fun _ _ _ h => h) ⟨Or.inl ⟨by rfl, by intro w0; go_simp; try with_reducible rfl⟩, fun _ => rfl⟩ ?_)
        (refine wpAnyIn_ready (rs := [5]) (by kernel_rfl) (by simp) ?_; refine AllReadyIn.cons rfl (fun Kr hKr => ?_) (AllReadyIn.nil))
        (go_simp; refine ⟨trivial, callsIn_wide.2 ((HIX _).mono ?_)⟩; rintro e wq ⟨rfl, rfl⟩; refine hKr _ _ ?_; clear hKr Kr)
        (refine wpAnyIn_take (i := 6) (v := ?_) rfl rfl (by kernel_rfl) (by kernel_rfl) (by kernel_rfl) (fun _ _ _ h => h) ⟨Or.inl ⟨by rfl, by intro w0; go_simp; try with_reducible rfl⟩, fun _ => rfl⟩ ?_)
        (refine wpAnyIn_take (i := 7) (v := ?_) rfl rfl (by kernel_rfl) (by kernel_rfl) (by kernel_rfl) (fun _ _ _ h => h) ⟨Or.inl ⟨by rfl, by intro w0; go_simp; try with_reducible rfl⟩, fun _ => rfl⟩ ?_)
        (refine wpAnyIn_take (i := 8) (v := ?_) rfl rfl (by kernel_rfl) (by kernel_rfl) (by kernel_rfl) (fun _ _ _ h => h) ⟨Or.inl ⟨by rfl, by intro w0; go_simp; try with_reducible rfl⟩, fun _ => rfl⟩ ?_)
        (refine wpAnyIn_take (i := 10) (v := ?_) rfl rfl (by kernel_rfl) (by kernel_rfl) (by kernel_rfl) (fun _ _ _ h => h) ⟨Or.inl ⟨by rfl, by intro w0; go_simp; try with_reducible rfl⟩, fun _ => rfl⟩ ?_)
        (refine wpAnyIn_ready (rs := [11]) (by kernel_rfl) (by simp) ?_; refine AllReadyIn.cons rfl (fun Kr hKr => ?_) (AllReadyIn.nil))
        (go_simp; refine hKr _ _ ?_; clear hKr Kr)
        refine wpAnyIn_done (by kernel_rfl) ?_ _
        exact FIN.out
      · (go_simp; refine ⟨trivial, callsIn_wide.2 ((HIX _).mono ?_)⟩; rintro e wq ⟨rfl, rfl⟩; refine hKr _ _ ?_; clear hKr Kr)
        (refine wpAnyIn_take (i := 6) (v := ?_) rfl rfl (by kernel_rfl) (by kernel_rfl) (by kernel_rfl) (fun _ _ _ h => h) ⟨Or.inl ⟨by rfl, by intro w0; go_simp; try with_reducible rfl⟩, fun _ => rfl⟩ ?_)
        (refine wpAnyIn_take (i := 7) (v := ?_) rfl rfl (by kernel_rfl) (by kernel_rfl) (by kernel_rfl) (fun _ _ _ h => h) ⟨Or.inl ⟨by rfl, by intro w0; go_simp; try with_reducible rfl⟩, fun _ => rfl⟩ ?_)
        (refine wpAnyIn_take (i := 8) (v := ?_) rfl rfl (by kernel_rfl) (by kernel_rfl) (by kernel_rfl) (fun _ _ _ h => h) ⟨Or.inl ⟨by rfl, by intro w0; go_simp; try with_reducible rfl⟩, fun _ => rfl⟩ ?_)
        (refine wpAnyIn_ready (rs := [0]) (by kernel_rfl) (by simp) ?_; refine AllReadyIn.cons rfl (fun Kr hKr => ?_) (AllReadyIn.nil))
        (go_simp; refine hKr _ _ ?_; clear hKr Kr)
        (refine wpAnyIn_take (i := 9) (v := ?_) rfl rfl (by kernel_rfl) (by kernel_rfl) (by kernel_rfl) (fun _ _ _ h => h) ⟨Or.inl ⟨by rfl, by intro w0; go_simp; try with_reducible rfl⟩, fun _ => rfl⟩ ?_)
        (refine wpAnyIn_take (i := 10) (v := ?_) rfl rfl (by kernel_rfl) (by kernel_rfl) (by kernel_rfl) (fun _ _ _ h => h) ⟨Or.inl ⟨by rfl, by intro w0; go_simp; try with_reducible rfl⟩, fun _ => rfl⟩ ?_)
        (refine wpAnyIn_ready (rs := [11]) (by kernel_rfl) (by simp) ?_; refine AllReadyIn.cons rfl (fun Kr hKr => ?_) (AllReadyIn.nil))
        (go_simp; refine hKr _ _ ?_; clear hKr Kr)
        refine wpAnyIn_done (by kernel_rfl) ?_ _
        exact FIN.out
  · intro D W hD hI hd
    obtain ⟨h1, h2, h3, h4⟩ := hI
    have c2 : W.cell? ⟨w1.heap.size, 0, none⟩ = some (.pointer (some ⟨w.heap.size + 1, 0, none⟩)) := h2.cell 0
    have h1' : At W (w.heap.size + 1) 130 (gC g) := by
      have h1 : At W (w.heap.size + 1) 130 (gC (halfG g 9)) := h1
      rwa [halfG_full] at h1
    have hDD : w1.heap.size + 2 ≤ D := by first | omega | simpa [World.size_alloc, Nat.add_assoc] using hD
    clear h1 h2 h3 hA0 hA1 hA2
    gi_wp2
    refine ⟨by simp, .inl ⟨D, _, rfl, run_takeDeferred hd, ?_⟩⟩
    exact ⟨_, results_tmp rfl _ _ _, w.heap.size + 1, rfl, (World.putObj_heap_other (by omega)).trans h1', by omega, h4.trans ⟨rfl, rfl, rfl, by simp [World.putObj], fun k hk => World.putObj_heap_other (by omega)⟩⟩
  · intro _ _ _ _ _ _ hf
    exact hf.elim
end Go.Proofs.YtfedloljhocpgaaGreatDoor
namespace Go.PM
open Go.RowKit
theorem SVal_zero : SVal (srcT fun _ => emp) := fun _ h => isS_nm h
structure PwR (f : Nat → ByteArray) (N : Nat) (d x : Nat → ByteArray) (k : Nat) : Prop where
  inv : PwInv f N d x k
  dv : SVal (srcT d)
  xv : SVal (srcT x)
theorem PwR.start {f : Nat → ByteArray} (h : SVal (srcT f)) (N : Nat) : PwR f N (fun _ => emp) f N := ⟨PwInv_start f N, SVal_zero, h⟩
theorem PwR.done {f d x : Nat → ByteArray} {N : Nat} (h : PwR f N d x 0) : ∀ p, p < 9 → srcT d p = pwF (srcT f) N p := fun _ hp => PwInv_end h.inv hp
end Go.PM
namespace Go.Proofs.YtfedloljhocpgaaGreatDoor
open Go.RowKit Go.PM

theorem idle_v (f : Nat → ByteArray) (w : World) :
    Calls Tryz.prog 44 #[tabX f] w fun e w' => e = .returned (tabX (noIdle f)) ∧ Below w.heap.size w w' := idle_c f w
end Go.Proofs.YtfedloljhocpgaaGreatDoor
namespace Go.PM
open Go.RowKit
end Go.PM
namespace Go.Proofs.YtfedloljhocpgaaGreatDoor
open Go.RowKit Go.PM

end Go.Proofs.YtfedloljhocpgaaGreatDoor
namespace Go.PM
open Go.RowKit
end Go.PM
namespace Go.Proofs.YtfedloljhocpgaaGreatDoor
open Go.RowKit Go.PM

end Go.Proofs.YtfedloljhocpgaaGreatDoor
namespace Go.PM
open Go.RowKit
theorem undoM_no {xs : List Mv} (h : exchB xs = false) : undoM xs = [] := by rw [undoM, h]; rfl
end Go.PM
namespace Go.Proofs.YtfedloljhocpgaaGreatDoor
open Go.RowKit Go.PM

end Go.Proofs.YtfedloljhocpgaaGreatDoor
namespace Go.Proofs.YtfedloljhocpgaaGreatDoor
open Go.RowKit Go.PM

set_option maxRecDepth 100000 in
set_option maxHeartbeats 2000000 in
theorem exchOf_yes (xs : List Mv) (h1 : MV xs) (v : Value) (w : World) (hx : RdM w v xs) :
    Calls Tryz.prog 50 #[v] w fun e w' => e = .returned (.tuple #[tabX (tabOf xs), .bool (exchB xs)]) ∧ Below w.heap.size w w' := by
  have HX := Lib.hid (fun W (hW : Below w.heap.size w W) => hx.below hW)
  have HT := Lib.hid (fun W hW => tableOf_yes xs h1 v W hW)
  have HE : Hid (exchB xs = decide (namesW (leafH (tabOf xs)) = emp)) := by
    have m1 : mvalid xs = true := by simpa [mvalid] using h1
    show _ = _
    rw [exchB, m1]; rfl
  have HL := Lib.hid (fun W => leaves_c (tabOf xs) W)
  clear h1 hx
  generalize namesW (leafH (tabOf xs)) = lv at *
  generalize tabOf xs = f at *
  have hb0 : Below w.heap.size w (w.alloc (.cells zA 65)) := (Below.refl _ _).alloc (Nat.le_refl _) _
  have hA0 : At (w.alloc (.cells zA 65)) w.heap.size 65 zA := At.new w _ _
  have hx0 := HX.out _ hb0
  go_enter Tryz.func50, Tryz.ntmps50
  go_wp2_with fail
  refine (HT.out _ hx0).mono ?_
  rintro e w1 ⟨rfl, hb1⟩
  have hbw := hb0.trans (hb1.mono hb0.size)
  have hA1 := hA0.keep hb1
  have hs1 := hbw.size
  clear hx0 hA0 hb0 hb1
  obtain ⟨W3, hW3⟩ : ∃ W3 : World, W3 = w1.alloc (.cells (tabA f) 65) := ⟨_, rfl⟩
  have K1 : At W3 w1.heap.size 65 (tabC f) := by rw [hW3]; exact At.new w1 _ _
  have K2 : At W3 w.heap.size 65 zA := by rw [hW3]; exact hA1.alloc _
  have hB3 : Below w.heap.size w W3 := by rw [hW3]; exact hbw.alloc hs1 _
  have hs3 := hB3.size
  have hne : w1.heap.size ≠ w.heap.size := Nat.ne_of_gt hA1.lt
  clear hbw hA1
  go_wp2
  rw [← hW3]
  clear hW3
  refine wp_region_held_drew (S := fun W => At W w1.heap.size 65 (tabC f)) (by kernel_rfl) K1 (fun hHeld => ?_)
  refine wpAnyH_take (i := 0) (oi := _) (v := .agg (tabC f)) rfl (by kernel_rfl) (by kernel_rfl) (by kernel_rfl) (fun _ _ _ h => h) (yieldsIf_row rfl 65 (.tmp 4) rfl w1.heap.size 65 (tabC f) (by rfl) (fun _ h => h) 9 9 Tryz.underlying65 (by kernel_rfl)) hHeld ?_
  simp only [Act.put, List.getElem_toArray, List.getElem_cons_zero, List.setIfInBounds_toArray, List.set_cons_succ, List.set_cons_zero]
  refine wpAnyH_take (i := 1) (oi := _) (v := ?_) rfl (by kernel_rfl) (by kernel_rfl) (by kernel_rfl) (fun _ _ _ h => h) (Or.inl ⟨by rfl, by intro w0 _; go_simp; rfl⟩) hHeld ?_
  simp only [Act.put, List.getElem_toArray, List.getElem_cons_succ, List.getElem_cons_zero, List.setIfInBounds_toArray, List.set_cons_succ, List.set_cons_zero]
  refine wpAnyH_take (i := 2) (oi := _) (v := ?_) rfl (by kernel_rfl) (by kernel_rfl) (by kernel_rfl) (fun _ _ _ h => h) (Or.inl ⟨by rfl, by intro w0 _; go_simp; rfl⟩) hHeld ?_
  simp only [Act.put, List.getElem_toArray, List.getElem_cons_succ, List.getElem_cons_zero, List.setIfInBounds_toArray, List.set_cons_succ, List.set_cons_zero]
  refine wpAnyH_take (i := 3) (oi := _) (v := .agg (tabC f)) rfl (by kernel_rfl) (by kernel_rfl) (by kernel_rfl) (fun _ _ _ h => h) (yieldsIf_row rfl 65 (.tmp 4) rfl w1.heap.size 65 (tabC f) (by rfl) (fun _ h => h) 9 9 Tryz.underlying65 (by kernel_rfl)) hHeld ?_
  simp only [Act.put, List.getElem_toArray, List.getElem_cons_succ, List.getElem_cons_zero, List.setIfInBounds_toArray, List.set_cons_succ, List.set_cons_zero]
  refine wpAnyH_ready (rs := [4]) (by kernel_rfl) (by simp) ?_
  refine AllReadyH.cons rfl (fun K hK => ?_) AllReadyH.nil
  go_simp
  go_at_call 109
  refine (HL.out _).mono ?_
  rintro e W4 ⟨rfl, hb4⟩
  replace hb4 : Below W3.heap.size W3 W4 := (Below.refl _ _).drew.trans hb4
  have m1 := K1.keep hb4
  have m2 := K2.keep hb4
  have hB4 := hB3.trans (hb4.mono hs3)
  have hs4 := hB4.size
  refine hK.out _ _ m1 (fun hHeld2 => ?_)
  clear hK K hb4 hHeld
  try simp only [Act.put, List.getElem_toArray, List.getElem_cons_succ, List.getElem_cons_zero, List.setIfInBounds_toArray, List.set_cons_succ, List.set_cons_zero]
  refine wpAnyH_take (i := 5) (oi := _) (v := ?_) rfl (by kernel_rfl) (by kernel_rfl) (by kernel_rfl) (fun _ _ _ h => h) (Or.inl ⟨by rfl, by intro w0 _; go_simp; rfl⟩) m1 ?_
  simp only [Act.put, List.getElem_toArray, List.getElem_cons_succ, List.getElem_cons_zero, List.setIfInBounds_toArray, List.set_cons_succ, List.set_cons_zero]
  refine wpAnyH_take (i := 6) (oi := _) (v := ?_) rfl (by kernel_rfl) (by kernel_rfl) (by kernel_rfl) (fun _ _ _ h => h) (Or.inl ⟨by rfl, by intro w0 _; go_simp; rfl⟩) m1 ?_
  simp only [Act.put, List.getElem_toArray, List.getElem_cons_succ, List.getElem_cons_zero, List.setIfInBounds_toArray, List.set_cons_succ, List.set_cons_zero]
  refine wpAnyH_ready (rs := [7]) (by kernel_rfl) (by simp) ?_
  refine AllReadyH.cons rfl (fun K hK => ?_) AllReadyH.nil
  rw [if_pos (by rfl)]
  refine wp_store_row 65 (.tmp 2) (.tmp 11) rfl w.heap.size (tabC f) (by rfl) (by rfl) 65 zA m2 (by kernel_rfl) rfl (tabC_all _) ?_
  have hg5 := grown_setRow W4 w.heap.size (tabC f)
  have hA5 := m2.setRow (tabC f)
  have n1 := m1.grown hg5 (fun e => hne (Option.some.inj e))
  have hB5 := hB4.trans (below_grown hg5 (B := w.heap.size) hs4 (fun g e => by cases e; omega))
  refine hK.out _ _ n1 (fun hHeld3 => ?_)
  clear hK K
  try simp only [Act.put, List.getElem_toArray, List.getElem_cons_succ, List.getElem_cons_zero]
  refine wpAnyH_take (i := 8) (oi := _) (v := ?_) rfl (by kernel_rfl) (by kernel_rfl) (by kernel_rfl) (fun _ _ _ h => h) (Or.inl ⟨by rfl, by intro w0 _; go_simp; rfl⟩) n1 ?_
  simp only [Act.put, List.getElem_toArray, List.getElem_cons_succ, List.getElem_cons_zero, List.setIfInBounds_toArray, List.set_cons_succ, List.set_cons_zero]
  refine wpAnyH_done (by kernel_rfl) ?_ _
  go_wp2
  refine bodyPost_ret (v := .tuple #[tabV f, .bool lv.toList.isEmpty]) (results_row2 Tryz.results50 _ _ w.heap.size 65 (tabC f) (by rfl) (by rfl) hA5 9 9 Tryz.underlying65 (by kernel_rfl)) rfl ⟨by rw [HE.out, emp_iff]; rfl, hB5⟩
set_option maxRecDepth 100000 in
set_option maxHeartbeats 2000000 in
theorem exchOf_no (xs : List Mv) (h1 : ¬ MV xs) (v : Value) (w : World) (hx : RdM w v xs) :
    Calls Tryz.prog 50 #[v] w fun e w' => e = .returned (.tuple #[zX, .bool false]) ∧ Below w.heap.size w w' := by
  have HX := Lib.hid (fun W (hW : Below w.heap.size w W) => hx.below hW)
  have HT := Lib.hid (fun W hW => tableOf_no xs h1 v W hW)
  clear h1 hx
  have hb0 : Below w.heap.size w (w.alloc (.cells zA 65)) := (Below.refl _ _).alloc (Nat.le_refl _) _
  have hA0 : At (w.alloc (.cells zA 65)) w.heap.size 65 zA := At.new w _ _
  have hx0 := HX.out _ hb0
  go_enter Tryz.func50, Tryz.ntmps50
  go_wp2_with fail
  refine (HT.out _ hx0).mono ?_
  rintro e w1 ⟨rfl, hb1⟩
  have hbw := hb0.trans (hb1.mono hb0.size)
  have hA1 := hA0.keep hb1
  have hs1 := hbw.size
  clear hx0 hA0 hb0 hb1
  obtain ⟨W3, hW3⟩ : ∃ W3 : World, W3 = w1.alloc (.cells zA 65) := ⟨_, rfl⟩
  have K1 : At W3 w1.heap.size 65 zA := by rw [hW3]; exact At.new w1 _ _
  have K2 : At W3 w.heap.size 65 zA := by rw [hW3]; exact hA1.alloc _
  have hB3 : Below w.heap.size w W3 := by rw [hW3]; exact hbw.alloc hs1 _
  have hs3 := hB3.size
  have hne : w1.heap.size ≠ w.heap.size := Nat.ne_of_gt hA1.lt
  clear hbw hA1
  go_wp2
  rw [← hW3]
  clear hW3
  refine wp_region_held_drew (S := fun W => At W w1.heap.size 65 (tabC (fun _ => emp))) (by kernel_rfl) K1 (fun hHeld => ?_)
  refine wpAnyH_take (i := 0) (oi := _) (v := .agg (tabC (fun _ => emp))) rfl (by kernel_rfl) (by kernel_rfl) (by kernel_rfl) (fun _ _ _ h => h) (yieldsIf_row rfl 65 (.tmp 4) rfl w1.heap.size 65 (tabC (fun _ => emp)) (by rfl) (fun _ h => h) 9 9 Tryz.underlying65 (by kernel_rfl)) hHeld ?_
  simp only [Act.put, List.getElem_toArray, List.getElem_cons_zero, List.setIfInBounds_toArray, List.set_cons_succ, List.set_cons_zero]
  refine wpAnyH_take (i := 1) (oi := _) (v := ?_) rfl (by kernel_rfl) (by kernel_rfl) (by kernel_rfl) (fun _ _ _ h => h) (Or.inl ⟨by rfl, by intro w0 _; go_simp; rfl⟩) hHeld ?_
  simp only [Act.put, List.getElem_toArray, List.getElem_cons_succ, List.getElem_cons_zero, List.setIfInBounds_toArray, List.set_cons_succ, List.set_cons_zero]
  refine wpAnyH_take (i := 2) (oi := _) (v := ?_) rfl (by kernel_rfl) (by kernel_rfl) (by kernel_rfl) (fun _ _ _ h => h) (Or.inl ⟨by rfl, by intro w0 _; go_simp; rfl⟩) hHeld ?_
  simp only [Act.put, List.getElem_toArray, List.getElem_cons_succ, List.getElem_cons_zero, List.setIfInBounds_toArray, List.set_cons_succ, List.set_cons_zero]
  refine wpAnyH_take (i := 3) (oi := _) (v := undef) rfl (by kernel_rfl) (by kernel_rfl) (by kernel_rfl) (fun _ _ _ h => h) (Or.inr ⟨by rfl, rfl⟩) hHeld ?_
  simp only [Act.put, List.getElem_toArray, List.getElem_cons_succ, List.getElem_cons_zero, List.setIfInBounds_toArray, List.set_cons_succ, List.set_cons_zero]
  refine wpAnyH_take (i := 4) (oi := _) (v := undef) rfl (by kernel_rfl) (by kernel_rfl) (by kernel_rfl) (fun _ _ _ h => h) (Or.inr ⟨by rfl, rfl⟩) hHeld ?_
  simp only [Act.put, List.getElem_toArray, List.getElem_cons_succ, List.getElem_cons_zero, List.setIfInBounds_toArray, List.set_cons_succ, List.set_cons_zero]
  refine wpAnyH_take (i := 5) (oi := _) (v := undef) rfl (by kernel_rfl) (by kernel_rfl) (by kernel_rfl) (fun _ _ _ h => h) (Or.inr ⟨by rfl, rfl⟩) hHeld ?_
  simp only [Act.put, List.getElem_toArray, List.getElem_cons_succ, List.getElem_cons_zero, List.setIfInBounds_toArray, List.set_cons_succ, List.set_cons_zero]
  refine wpAnyH_take (i := 6) (oi := _) (v := ?_) rfl (by kernel_rfl) (by kernel_rfl) (by kernel_rfl) (fun _ _ _ h => h) (Or.inl ⟨by rfl, by intro w0 _; go_simp; rfl⟩) hHeld ?_
  simp only [Act.put, List.getElem_toArray, List.getElem_cons_succ, List.getElem_cons_zero, List.setIfInBounds_toArray, List.set_cons_succ, List.set_cons_zero]
  have m1 : At W3.drew w1.heap.size 65 zA := K1
  have m2 : At W3.drew w.heap.size 65 zA := K2
  have hB4 : Below w.heap.size w W3.drew := hB3.drew
  have hs4 := hB4.size
  refine wpAnyH_ready (rs := [7]) (by kernel_rfl) (by simp) ?_
  refine AllReadyH.cons rfl (fun K hK => ?_) AllReadyH.nil
  rw [if_pos (by rfl)]
  refine wp_store_row 65 (.tmp 2) (.tmp 11) rfl w.heap.size (tabC (fun _ => emp)) (by rfl) (by rfl) 65 zA m2 (by kernel_rfl) rfl (tabC_all _) ?_
  have hg5 := grown_setRow W3.drew w.heap.size (tabC (fun _ => emp))
  have hA5 := m2.setRow (tabC (fun _ => emp))
  have n1 := m1.grown hg5 (fun e => hne (Option.some.inj e))
  have hB5 := hB4.trans (below_grown hg5 (B := w.heap.size) hs4 (fun g e => by cases e; omega))
  refine hK.out _ _ n1 (fun hHeld3 => ?_)
  clear hK K
  try simp only [Act.put, List.getElem_toArray, List.getElem_cons_succ, List.getElem_cons_zero]
  refine wpAnyH_take (i := 8) (oi := _) (v := ?_) rfl (by kernel_rfl) (by kernel_rfl) (by kernel_rfl) (fun _ _ _ h => h) (Or.inl ⟨by rfl, by intro w0 _; go_simp; rfl⟩) n1 ?_
  simp only [Act.put, List.getElem_toArray, List.getElem_cons_succ, List.getElem_cons_zero, List.setIfInBounds_toArray, List.set_cons_succ, List.set_cons_zero]
  refine wpAnyH_done (by kernel_rfl) ?_ _
  go_wp2
  refine bodyPost_ret (v := .tuple #[.agg (tabC (fun _ => emp)), .bool false]) (results_row2 Tryz.results50 _ _ w.heap.size 65 (tabC (fun _ => emp)) (by rfl) (by rfl) hA5 9 9 Tryz.underlying65 (by kernel_rfl)) rfl ⟨rfl, hB5⟩
set_option maxRecDepth 100000 in
set_option maxHeartbeats 2000000 in
theorem imUndoMoves_c (xs : List Mv) (v : Value) (w : World) (hx : RdM w v xs) :
    Calls Tryz.prog 11 #[v] w fun e w' => ∃ v', e = .returned (.tuple #[v', .bool (exchB xs)]) ∧ w'.ownsRow w.heap.size 56 2 v' (undoM xs).length (mcells (undoM xs)) ∧ Below w.heap.size w w' := by
  by_cases h1 : MV xs
  · have HT := Lib.hid (exchOf_yes xs h1 v w hx)
    rcases Bool.eq_false_or_eq_true (exchB xs) with h2 | h2
    · have HR := Lib.hid (undoM_tab h2)
      have HU := Lib.hid (fun W => undone_c (tabOf xs) (exchB_iff.1 h2).2 W)
      have H2 := Lib.hid h2
      clear hx h1 h2
      generalize tabOf xs = f at *
      go_enter Tryz.func11, Tryz.ntmps11
      go_wp2_with fail
      refine HT.out.mono ?_
      rw [H2.out]
      rintro e w1 ⟨rfl, hb1⟩
      have hs1 := hb1.size
      have k1 : At (w1.alloc (.cells (tabA f) 65)) w1.heap.size 65 (tabA f) := At.new w1 _ _
      have hB2 := hb1.alloc hs1 (.cells (tabA f) 65)
      have hs2 := hB2.size
      clear hb1
      go_wp2_with (first | (refine ld_row rfl 65 (.tmp 4) rfl w1.heap.size 65 (tabC f) k1 (by rfl) 9 9 Tryz.underlying65 (by kernel_rfl) ?_) | (go_at_call 51; refine (HU.out _).mono ?_; rintro e w4 ⟨rfl, hb4⟩; refine held ?_))
      unfold Held
      have hB4 := hB2.trans (hb4.mono hs2)
      have hs4 := hB4.size
      clear hb4 k1 hB2
      go_wp2_with (go_at_call 44; refine (idle_v (bkF f 9) _).mono ?_; rintro e w5 ⟨rfl, hb5⟩; refine held ?_)
      unfold Held
      have hB5 := hB4.trans (hb5.mono hs4)
      have hs5 := hB5.size
      clear hb5 hB4
      have HLI := Lib.hid (fun W => list_c (noIdle (bkF f 9)) W)
      rw [HR.out] at HLI
      go_wp2_with (go_at_call 45; refine (HLI.out _).mono ?_; rintro e w6 ⟨v', rfl, ho, hb6⟩; refine held ?_)
      unfold Held
      have hB6 := hB5.trans (hb6.mono hs5)
      have ho6 := own_more ho hs5
      clear hb6 hB5 ho
      go_wp2
      go_ret2
      exact ⟨_, by rw [H2.out]; rfl, ho6, hB6⟩
    · have HNO := Lib.hid (undoM_no h2)
      have H2 := Lib.hid h2
      clear hx h1 h2
      generalize tabOf xs = f at *
      go_enter Tryz.func11, Tryz.ntmps11
      go_wp2_with fail
      refine HT.out.mono ?_
      rw [H2.out]
      rintro e w1 ⟨rfl, hb1⟩
      have hs1 := hb1.size
      go_wp2
      go_ret2
      exact ⟨_, by rw [H2.out]; rfl, by rw [HNO.out]; exact ⟨rfl, .inl ⟨rfl, rfl⟩⟩, by (repeat' (first | (with_reducible exact Below.refl _ _) | (with_reducible assumption) | (with_reducible refine Below.alloc ?_ ?_ _) | (with_reducible refine Below.drew ?_) | (with_reducible refine Below.setCell ?_ ?_ _) | (with_reducible exact Nat.le_refl _) | omega | ((repeat (first | rewrite [World.size_alloc] | rewrite [World.size_setCell] | rewrite [World.size_drew])); omega) | (simp; omega) | (simp; done)))⟩
  · have HT := Lib.hid (exchOf_no xs h1 v w hx)
    have HE : Hid (exchB xs = false) := by
      have : mvalid xs = false := by simpa [mvalid] using h1
      show _ = _
      rw [exchB, this]; rfl
    have HNO := Lib.hid (undoM_no HE.out)
    clear hx h1
    go_enter Tryz.func11, Tryz.ntmps11
    go_wp2_with fail
    refine HT.out.mono ?_
    rintro e w1 ⟨rfl, hb1⟩
    have hs1 := hb1.size
    go_wp2
    go_ret2
    exact ⟨_, by rw [HE.out]; rfl, by rw [HNO.out]; exact ⟨rfl, .inl ⟨rfl, rfl⟩⟩, by (repeat' (first | (with_reducible exact Below.refl _ _) | (with_reducible assumption) | (with_reducible refine Below.alloc ?_ ?_ _) | (with_reducible refine Below.drew ?_) | (with_reducible refine Below.setCell ?_ ?_ _) | (with_reducible exact Nat.le_refl _) | omega | ((repeat (first | rewrite [World.size_alloc] | rewrite [World.size_setCell] | rewrite [World.size_drew])); omega) | (simp; omega) | (simp; done)))⟩
end Go.Proofs.YtfedloljhocpgaaGreatDoor
namespace Go.PS
open Go.PM Go.RowKit Go.PW
end Go.PS
namespace Go.Proofs.YtfedloljhocpgaaGreatDoor
open Go.RowKit Go.PM Go.PS Go.Lib
end Go.Proofs.YtfedloljhocpgaaGreatDoor
