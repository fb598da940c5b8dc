import Derived.Test.YtfedloljhocpgaaGreatDoorNames
import Derived.Test.YtfedloljhocpgaaGreatDoorTail
import Derived.Test.YtfedloljhocpgaaGreatDoorApp
import Derived.Laws.EntriesVeiled
namespace Go.PM
open Go.RowKit
def hasT (t : Nat → ByteArray) (p : Nat) : Bool := decide (t p ≠ emp)
def mvT (t : Nat → ByteArray) (pre : List Nat) : List Mv := (pre.filter (hasT t)).map fun p => (nm p, t p)
theorem mvT_no (t : Nat → ByteArray) (pre : List Nat) (p : Nat) (h : t p = emp) : mvT t (pre ++ [p]) = mvT t pre := by
  have : hasT t p = false := by simp [hasT, h]
  simp [mvT, this]
theorem mvT_yes (t : Nat → ByteArray) (pre : List Nat) (p : Nat) (h : t p ≠ emp) : mvT t (pre ++ [p]) = mvT t pre ++ [(nm p, t p)] := by
  have : hasT t p = true := by simp [hasT, h]
  simp [mvT, this]
theorem mvT_pre (t : Nat → ByteArray) {a b : List Nat} (h : a <+: b) : mvT t a <+: mvT t b := by
  obtain ⟨c, rfl⟩ := h
  rw [mvT, mvT, List.filter_append, List.map_append]
  exact List.prefix_append _ _
end Go.PM
namespace Go.Proofs.YtfedloljhocpgaaGreatDoor
open Go.RowKit Go.PM
attribute [local go_sem] Oper.semAt_some

set_option maxRecDepth 100000 in
set_option maxHeartbeats 2000000 in
theorem moves_iter (t : Nat → ByteArray) :
    Iter 2 Fence.wide 4 Tryz.prog 100 (fun y => #[tabX t] ++ #[y] ++ #[]) (fun m : Mv => #[.agg #[.string m.1, .string m.2]]) (mvT t (List.range 9)) := by
  intro l J Jx W hJ hJx hY h0
  change CallsIn _ _ _ _ #[tabV t, .func (.yield l) #[] #[]] W _
  refine callsIn_of_wp_marks Tryz.func100 rfl trivial ?_ rfl
  simp only [Tryz.ntmps100, List.size_toArray, List.length_cons, List.length_nil, Nat.reduceAdd, Nat.reduceSub, Array.replicate_succ, Array.replicate_zero, List.push_toArray, List.append_toArray, List.nil_append, List.cons_append]
  obtain ⟨W0, hW0⟩ : ∃ W0 : World, W0 = (W.alloc (.cells (tabC t) 65)).alloc (.cells #[.func (.yield l) #[] #[]] 126) := ⟨_, rfl⟩
  have hS0 : W0.heap.size = W.heap.size + 2 := by rw [hW0]; simp only [World.size_alloc]
  have hA0 : At W0 W.heap.size 65 (tabC t) := by rw [hW0]; exact (At.new _ _ _).alloc _
  have hA1 : At W0 (W.heap.size + 1) 126 #[.func (.yield l) #[] #[]] := by
    rw [hW0]; have := At.new (W.alloc (.cells (tabC t) 65)) 126 #[.func (.yield l) #[] #[]]
    rwa [World.size_alloc] at this
  have hJ0 : J [] W0 := by rw [hW0]; exact hJ.alloc _ (hJ.alloc _ h0)
  have hN0 : KeepsNew W.heap.size W W0 := by
    rw [hW0]; exact KeepsNew.below (((Below.refl _ _).alloc (Nat.le_refl _) _).alloc (by simp) _)
  gi_wp2
  rw [← hW0]
  clear hW0
  refine range_law (F := Fence.wide) (gf := 56) (lf := #[.int .i64 9]) (lb := #[]) rfl (by decide) rfl trivial (fun args w => rfl) (encs := fun p : Nat => #[.int .i64 p]) (xs := List.range 9)
    (below_iter _ _ trivial rfl (by decide)) (fun _ => rfl)
    (fun pre A => J (mvT t pre) A ∧ At A W.heap.size 65 (tabC t) ∧ At A (W.heap.size + 1) 126 #[.func (.yield l) #[] #[]])
    (fun c pre A => c = .ret ∧ ∃ pre2, pre2 <+: mvT t (List.range 9) ∧ Jx pre2 A) ?_ ?_ ?_ (fun p => { tmps := #[tabV t, .func (.yield l) #[] #[], .pointer (some ⟨W.heap.size, 0, none⟩), .pointer (some ⟨W.heap.size + 1, 0, none⟩), .int .i64 p, .func (.func 56) #[.int .i64 9] #[], .int .i64 p, undef, undef, undef, undef, undef, undef, undef, undef, undef, undef, undef, undef, undef, undef, undef], defers := [] }) ?_ ?_ ?_ ?_
  · rintro s A A' row ⟨h1, h2, h3⟩ hg hr
    have hr' : ∀ r, row = some r → W.heap.size + 2 ≤ r := fun r e => by have := (hr r e).1; omega
    have hne : ∀ b, b < W.heap.size + 2 → some b ≠ row := fun b hb e => by have := hr' _ e.symm; omega
    exact ⟨hJ _ A A' row h1 hg (fun r e => ⟨by have := hr' r e; omega, (hr r e).2⟩), h2.grown hg (hne _ (by omega)), h3.grown hg (hne _ (by omega))⟩
  · rintro c s A A' row ⟨h1, pre2, h2, h3⟩ hg hr
    have hr' : ∀ r, row = some r → W.heap.size + 2 ≤ r := fun r e => by have := (hr r e).1; omega
    exact ⟨h1, pre2, h2, hJx _ A A' row h3 hg (fun r e => ⟨by have := hr' r e; omega, (hr r e).2⟩)⟩
  · exact ⟨hJ0, hA0, hA1⟩
  · intro l p W Kc hK
    gi_wp2
    exact hK
  · clear hJ0 hA0 hA1 hN0
    rintro l2 pre p A ⟨h1, h2, h3⟩ hp hsz
    have hp9 : p < 9 := by
      have := hp.mem (List.mem_append_right _ (List.mem_singleton_self p))
      simpa using this
    have i0 : (0 : Int) ≤ (p : Int) := by omega
    have i1 : (p : Int) < 9 := by omega
    have hpc := (h2.cell p).trans (tabC_at t p hp9)
    have hyc : A.drew.cell? ⟨W.heap.size + 1, 0, none⟩ = some (.func (.yield l) #[] #[]) := h3.cell 0
    have hpd : A.drew.cell? ⟨W.heap.size, p, none⟩ = some (.string (t p)) := hpc
    clear hpc
    by_cases he : t p = emp
    · have hpe : A.drew.cell? ⟨W.heap.size, p, none⟩ = some (.string ⟨#[]⟩) := by rw [hpd, he]
      have HM := Lib.hid (mvT_no t pre p he)
      clear he hpd
      gi_wp2
      refine region_quiet_inRound (F := Fence.wide) (C := fun w' => w' = A.drew) rfl (by kernel_rfl) (by kernel_rfl) (by kernel_rfl) rfl ?_
      simp only
      repeat (first | gi_big_quiet_step (fail) | (refine BigFrame.wpQuietIn_skip (fun _ _ _ _ => trivial) rfl ?_; simp only [Act.put, List.setIfInBounds_toArray, List.set_cons_succ, List.set_cons_zero]))
      refine wpQuietIn_nil ?_
      intro w' hw'
      subst hw'
      gi_wp2
      exact ⟨(KeepsNew.drew A).from, KeepsIn.zero (Nat.le_refl _), by rw [HM.out]; exact hJ _ A A.drew none h1 ⟨rfl, rfl, rfl, Nat.le_refl _, fun _ _ _ => rfl⟩ (fun r e => by cases e), h2, h3⟩
    · have hne : (t p).toList.isEmpty = false := by
        rw [ByteArray.toList_eq]
        cases hl : (t p).data.toList with
        | nil => exact absurd (Go.WideShapes.bytes_inj (by rw [hl])) he
        | cons a l => rfl
      have HM := Lib.hid (mvT_yes t pre p he)
      have hpre : mvT t pre ++ [(nm p, t p)] <+: mvT t (List.range 9) := by rw [← mvT_yes t pre p he]; exact mvT_pre t hp
      have hJd : J (mvT t pre) A.drew := hJ _ A A.drew none h1 ⟨rfl, rfl, rfl, Nat.le_refl _, fun _ _ _ => rfl⟩ (fun r e => by cases e)
      obtain ⟨fn, tmps, assign, body, hy, hR⟩ := yieldAt_wide (m := 1) (hY (mvT t pre) (nm p, t p) A.drew hJd (by show _ ≤ A.heap.size; omega) hpre)
      have hnm := fun W' => name_c p hp9 W'
      clear he
      generalize t p = q at *
      generalize nm p = a at *
      gi_wp2
      refine region_tail_inRound (F := Fence.wide) (C := fun w' => w' = A.drew) 12 rfl (by kernel_rfl) (by kernel_rfl) (by kernel_rfl) rfl ?_
      simp only [List.take_succ_cons, List.take_zero, List.drop_succ_cons, List.drop_zero]
      gi_big_quiet_step (fail)
      gi_big_quiet_step (fail)
      gi_big_quiet_step (fail)
      gi_big_quiet_step (fail)
      gi_big_quiet_step (fail)
      gi_big_quiet_step (fail)
      gi_big_quiet_step (fail)
      refine BigFrame.wpQuietIn_want (fun _ _ _ _ => trivial) rfl (fun K hK => ?_)
      gi_big_quiet_op
      refine ⟨_, callsIn_wide.2 ((hnm _).mono (fun e w' h => ⟨h.1, h.2.symm⟩)), hK _ ?_⟩
      clear hK K
      gi_big_quiet_step (fail)
      gi_big_quiet_step (fail)
      gi_big_quiet_step (fail)
      gi_big_quiet_step (fail)
      refine wpQuietIn_nil ?_
      intro w' hw'
      subst hw'
      gi_wp2
      refine hR.mono ?_
      rintro e A2 (⟨rfl, hJ3, hKN, hKF⟩ | ⟨rfl, hJ3, _, hKF⟩)
      · have k2 : At A2 W.heap.size 65 (tabC t) := (hKN.same _ (Nat.le_refl _) (by omega)).trans h2
        have k3 : At A2 (W.heap.size + 1) 126 #[.func (.yield l) #[] #[]] := (hKN.same _ (by omega) (by omega)).trans h3
        have kN : A.heap.size ≤ A2.heap.size := hKN.size
        have kF : KeepsFrom W0.heap.size A A2 := ⟨hKF.size, fun k o hk h4 h5 => hKF.same k o (by omega) h4 h5⟩
        clear h1 h2 h3 hJd hY
        gi_wp2
        exact ⟨kF, KeepsIn.zero kN, by rw [HM.out]; exact hJ3, k2, k3⟩
      · have kF : KeepsFrom W0.heap.size A A2 := ⟨hKF.size, fun k o hk h4 h5 => hKF.same k o (by omega) h4 h5⟩
        clear h1 h2 h3 hJd hY
        gi_wp2
        exact ⟨kF, rfl, _, hpre, hJ3⟩
  · clear hJ0 hA0 hA1 hN0 hY
    intro D A hD hI hd
    obtain ⟨h1, h2, h3⟩ := hI
    gi_wp2
    refine ⟨by simp, .inl ⟨D, _, rfl, run_takeDeferred hd, ?_⟩⟩
    refine ⟨_, results_none rfl _ _ _, ⟨_, rfl⟩, .inl ?_⟩
    exact hJ.putObj _ h1 (by omega) hd rfl
  · clear hJ0 hA0 hA1 hN0 hY
    rintro D c pre A hD hp ⟨rfl, pre2, hp2, h1⟩ hd
    gi_wp2
    refine ⟨by simp, .inl ⟨D, _, rfl, run_takeDeferred hd, ?_⟩⟩
    refine ⟨_, results_none rfl _ _ _, ⟨_, rfl⟩, .inr ⟨pre2, hp2, ?_⟩⟩
    exact hJx.putObj _ h1 (by omega) hd rfl
end Go.Proofs.YtfedloljhocpgaaGreatDoor

