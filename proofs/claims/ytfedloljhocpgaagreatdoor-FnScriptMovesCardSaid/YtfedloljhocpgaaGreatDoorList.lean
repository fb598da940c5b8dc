import Derived.Test.YtfedloljhocpgaaGreatDoorMoves
import Derived.Test.YtfedloljhocpgaaGreatDoorRange2
import Derived.Test.YtfedloljhocpgaaGreatDoorHold
namespace Go.PM
open Go.RowKit
theorem mvT_len (t : Nat → ByteArray) {pre : List Mv} (h : pre <+: mvT t (List.range 9)) : pre.length ≤ 9 := by
  have h1 := h.length_le
  have h2 : (mvT t (List.range 9)).length ≤ 9 := by
    unfold mvT
    rw [List.length_map]
    have := List.length_filter_le (hasT t) (List.range 9)
    simpa using this
  omega
theorem own_box_ne {w : World} {base : Nat} {e t : TypeId} {size n b : Nat} {v : Value} {cs : List Value} {c : Array Value} (h : w.ownsRow base e size v n cs) (hA : At w b t c) (hne : e ≠ t) : some b ≠ v.ownBlock := by
  rcases h.2 with ⟨rfl, _⟩ | ⟨g, cap, cur, rfl, _, hg, _⟩
  · simp [Value.ownBlock]
  · intro e'
    simp only [Value.ownBlock, Option.some.injEq] at e'
    subst e'
    unfold At at hA
    rw [hA] at hg
    cases hg
    exact hne rfl
theorem own_turn {w w' : World} {base : Nat} {e : TypeId} {size n : Nat} {v : Value} {cs : List Value} {row : Option Nat} (h : w.ownsRow base e size v n cs) (hg : w.grownBy w' row) (hr : ∀ r, row = some r → ∃ o : Obj, w.heap[r]? = some o ∧ o.isCells = false) : w'.ownsRow base e size v n cs := by
  refine h.kept hg ?_
  rcases h.2 with ⟨rfl, _⟩ | ⟨g, cap, cur, rfl, _, hh, _⟩
  · exact .inl rfl
  · refine .inr fun e' => ?_
    obtain ⟨o, ho, hc⟩ := hr g e'.symm
    rw [hh] at ho
    cases ho
    cases hc
theorem At.turn {w w' : World} {b : Nat} {t : TypeId} {c : Array Value} {row : Option Nat} (h : At w b t c) (hg : w.grownBy w' row) (hr : ∀ r, row = some r → ∃ o : Obj, w.heap[r]? = some o ∧ o.isCells = false) : At w' b t c := by
  refine h.grown hg fun e' => ?_
  obtain ⟨o, ho, hc⟩ := hr b e'.symm
  unfold At at h
  rw [h] at ho
  cases ho
  cases hc
end Go.PM
namespace Go.Proofs.YtfedloljhocpgaaGreatDoor
open Go.RowKit Go.PM
attribute [local go_sem] Oper.semAt_some

theorem appIn_mv {F : Fence} {k : Nat} {ops : Array Oper} {rest : List Oper} {o : Oper} {a : Act} {Q : Exit → Act → World → Prop} {w : World} (hgd : o.guard = none) (s x : Operand)
    (ho : o.op = .call { callee := .builtin .append, args := #[s, x], argTypes := #[23, 23] })
    (base : Nat) (v : Value) (ys : List Mv) (m : Mv) (ad : Addr) (c : Nat) (hs : a.eval s = v) (hx : a.eval x = .slice (some ad) 1 c)
    (hown : w.ownsRow base 56 2 v ys.length (mcells ys)) (hnew : ∀ j u, [Value.string m.1, Value.string m.2][j]? = some u → w.cell? (ad.add j) = some u)
    (hlen : ys.length ≤ 1048576) (hbase : base ≤ w.heap.size)
    (h : ∀ v' w', w'.ownsRow base 56 2 v' (ys ++ [m]).length (mcells (ys ++ [m])) → w.grownBy w' v.ownBlock → wpListIn F k Tryz.prog ops Q rest (a.put o.dst v') w') : wpListIn F k Tryz.prog ops Q (o :: rest) a w := by
  obtain ⟨i0, hi0, hz0, hz1, hz2⟩ := info_parts infoMv
  refine wpListIn_append_own w hgd s x _ ho base 56 i0 _ 2 32 Tryz.underlying23 hi0 hz0 hz1 hz2 rfl (by omega) v ys.length (mcells ys) hs hown ad 1 c [Value.string m.1, Value.string m.2] hx rfl hnew
    (by intro u hu; simp at hu; rcases hu with rfl | rfl <;> rfl) (by simp only [maxLen]; omega) (by omega) hbase ?_
  intro v' w' h2 h3 _
  refine h v' w' ?_ h3
  rw [mcells_append, List.length_append]
  simpa [mcells] using h2

set_option maxRecDepth 100000 in
set_option maxHeartbeats 2000000 in
theorem list_c (t : Nat → ByteArray) (w : World) :
    Calls Tryz.prog 45 #[tabX t] w fun e w' => ∃ v', e = .returned v' ∧ w'.ownsRow w.heap.size 56 2 v' (mvT t (List.range 9)).length (mcells (mvT t (List.range 9))) ∧ Below w.heap.size w w' := by
  refine (callsIn_wide (n := 5)).1 ?_
  refine callsIn_of_wp_marks Tryz.func45 rfl trivial ?_ rfl
  simp only [Tryz.ntmps45, List.size_toArray, List.length_cons, List.length_nil, Nat.reduceAdd, Nat.reduceSub, Array.replicate_succ, Array.replicate_zero, List.push_toArray, List.append_toArray, List.nil_append, List.cons_append]
  gi_wp2
  obtain ⟨W0, hW0⟩ : ∃ W0 : World, W0 = (w.alloc (.cells (tabA t) 65)).alloc (.cells #[.slice none 0 0] 23) := ⟨_, rfl⟩
  have hS0 : W0.heap.size = w.heap.size + 2 := by rw [hW0]; simp only [World.size_alloc]
  have hB0 : Below w.heap.size w W0 := by rw [hW0]; (repeat' (first | (with_reducible exact Below.refl _ _) | (with_reducible assumption) | (with_reducible refine Below.alloc ?_ ?_ _) | (with_reducible refine Below.drew ?_) | (with_reducible refine Below.setCell ?_ ?_ _) | (with_reducible exact Nat.le_refl _) | omega | ((repeat (first | rewrite [World.size_alloc] | rewrite [World.size_setCell] | rewrite [World.size_drew])); omega) | (simp; omega) | (simp; done)))
  have hA0 : At W0 (w.heap.size + 1) 23 #[.slice none 0 0] := by
    rw [hW0]; have := At.new (w.alloc (.cells (tabA t) 65)) 23 #[.slice none 0 0]
    rwa [World.size_alloc] at this
  rw [← hW0]
  clear hW0
  refine range_law2 (F := Fence.wide) (gf := 100) (lf := #[tabX t]) (lb := #[]) rfl (by decide) rfl trivial (fun args w => rfl) (encs := fun m : Mv => #[.agg #[.string m.1, .string m.2]]) (xs := mvT t (List.range 9)) (κ := 2)
    (moves_iter t) (fun _ => rfl)
    (fun pre W => ∃ o, At W (w.heap.size + 1) 23 #[o] ∧ W.ownsRow (W0.heap.size + 4) 56 2 o pre.length (mcells pre) ∧ Below w.heap.size w W)
    (fun _ _ _ => False) ?_ (fun _ => ownFrom_pure _ _) ?_
    (fun m a' W => ∃ b, At W b 56 #[.string m.1, .string m.2] ∧ a' = { tmps := #[tabX t, .pointer (some ⟨w.heap.size, 0, none⟩), .slice none 0 0, .pointer (some ⟨w.heap.size + 1, 0, none⟩), .pointer (some ⟨b, 0, none⟩), tabX t, .func (.func 100) #[tabX t] #[], .agg #[.string m.1, .string m.2], undef, undef, undef, undef, undef], defers := [] }) ?_ ?_ ?_ ?_ ?_
  · rintro s A A' row ⟨o, k1, k2, k3⟩ hg hr
    exact ⟨o, k1.turn hg (fun r e => (hr r e).2), own_turn k2 hg (fun r e => (hr r e).2), k3.trans (below_grown hg k3.size (fun g e => by have := (hr g e).1; omega))⟩
  · exact ⟨_, hA0, ⟨rfl, .inl ⟨rfl, rfl⟩⟩, hB0⟩
  · rintro m a' s A A' row ⟨b, k1, k2⟩ hg hr
    exact ⟨b, k1.turn hg (fun r e => (hr r e).2), k2⟩
  · intro l pre m W K hI hp hsz hK
    obtain ⟨o, k1, k2, k3⟩ := hI
    have r1 : ∃ o, At (W.alloc (.cells #[.string m.1, .string m.2] 56)) (w.heap.size + 1) 23 #[o] ∧ (W.alloc (.cells #[.string m.1, .string m.2] 56)).ownsRow (W0.heap.size + 4) 56 2 o pre.length (mcells pre) ∧ Below w.heap.size w (W.alloc (.cells #[.string m.1, .string m.2] 56)) :=
      ⟨o, k1.alloc _, own_keep k2 ((Below.refl _ _).alloc (Nat.le_refl _) _), k3.alloc k3.size _⟩
    have r2 := At.new W 56 #[.string m.1, .string m.2]
    have r3 : KeepsNew W0.heap.size W (W.alloc (.cells #[.string m.1, .string m.2] 56)) := KeepsNew.below ((Below.refl _ _).alloc (Nat.le_refl _) _)
    clear k1 k2 k3
    gi_wp2
    exact hK _ _ r3 r1 ⟨_, r2, rfl⟩
  · rintro l pre m a' W ⟨o, k1, k2, k3⟩ ⟨b, q1, rfl⟩ hp hsz
    have hlen := mvT_len t (List.IsPrefix.trans (List.prefix_append pre [m]) hp)
    have hpn : (pre ++ [m]).length = pre.length + 1 := by simp
    have c1 : W.cell? ⟨b, 0, none⟩ = some (.string m.1) := q1.cell 0
    have c2 : W.cell? ⟨b, 1, none⟩ = some (.string m.2) := q1.cell 1
    have c3 : W.cell? ⟨w.heap.size + 1, 0, none⟩ = some o := k1.cell 0
    have hl1 := k1.lt
    have hnw := two_new W (.string m.1) (.string m.2) 56
    gi_wp2_with (gi_at_builtin; refine held ?_)
    unfold Held
    refine appIn_mv rfl (.tmp 8) (.tmp 10) rfl (W0.heap.size + 4) o pre m ⟨W.heap.size, 0, none⟩ 1 (by rfl) (by rfl) (own_keep k2 ((Below.refl _ _).alloc (Nat.le_refl _) _)) hnw (by omega) (by simp; omega) ?_
    intro o' W3 hown3 hgrow3
    have j1 : At W3 (w.heap.size + 1) 23 #[o] := (k1.alloc (.cells #[.string m.1, .string m.2] 56)).grown hgrow3 (own_box_ne k2 k1 (by decide))
    have d1 := j1.cell 0
    have d2 := j1.frozen 0
    have hge := own_block_ge k2
    have hK3 : KeepsFrom W0.heap.size W W3 := by
      refine ⟨Nat.le_trans (by simp) hgrow3.size, fun x ob hx1 hx2 hx3 => ?_⟩
      have hx4 := (Array.getElem?_eq_some_iff.1 hx2).1
      refine (hgrow3.block x (by simp; omega) (fun e => ?_)).trans ((Below.heap_alloc _ _ _ hx4).trans hx2)
      rcases k2.2 with ⟨rfl, _⟩ | ⟨g, cap, cur, rfl, _, hh, _⟩
      · cases e
      · cases e
        rw [hh] at hx2
        cases hx2
        cases hx3
    have hI3 : KeepsIn (W0.heap.size + 2) 2 W W3 := by
      refine ⟨Nat.le_trans (by simp) hgrow3.size, fun x hx1 hx2 => ?_⟩
      refine (hgrow3.block x (by simp; omega) (fun e => ?_)).trans (Below.heap_alloc _ _ _ (by omega))
      have := hge x e.symm
      omega
    have hB3 : Below w.heap.size w W3 := (k3.alloc k3.size _).trans (below_grown hgrow3 (by have := k3.size; simp; omega) (fun g e => by have := hge g e; omega))
    have hne3 := own_box_ne hown3 j1 (by decide)
    rw [hpn] at hown3
    obtain ⟨A3, cap3, rfl, _⟩ := Rd.of_own hown3
    have m1 : At (W3.setCell ⟨w.heap.size + 1, 0, none⟩ (.slice A3 (pre.length + 1) cap3)) (w.heap.size + 1) 23 #[.slice A3 (pre.length + 1) cap3] := j1.set 0 _
    clear hnw c1 c2 c3 k1 k2 k3 q1 hgrow3 hge
    gi_wp2
    refine ⟨hK3.trans ((KeepsOthers.setCell _ _ _).from _), ⟨by simp [World.size_setCell]; exact hI3.size, fun x hx1 hx2 => (heap_setCell_other _ _ _ _ (by simp; omega)).trans (hI3.same x hx1 hx2)⟩, _, m1, ?_, hB3.setCell (by simp) _⟩
    rw [hpn]
    exact hown3.kept (grownBy_setCell' W3 (w.heap.size + 1) _) (.inr hne3.symm)
  · intro D W hD hI hd
    obtain ⟨o, k1, k2, k3⟩ := hI
    have c3 : W.cell? ⟨w.heap.size + 1, 0, none⟩ = some o := k1.cell 0
    have hown := own_more k2 (show w.heap.size ≤ W0.heap.size + 4 by omega)
    clear k1 k2
    gi_wp2
    refine ⟨by simp, .inl ⟨D, _, rfl, run_takeDeferred hd, ?_⟩⟩
    exact ⟨_, results_tmp rfl _ _ _, _, rfl, own_turn hown (grownBy_putObj' W D _) (fun r e => by cases e; exact ⟨_, hd, rfl⟩), k3.trans ⟨rfl, rfl, rfl, by simp [World.putObj], fun k hk => World.putObj_heap_other (by have := k3.size; omega)⟩⟩
  · intro _ _ _ _ _ _ hf
    exact hf.elim
end Go.Proofs.YtfedloljhocpgaaGreatDoor

