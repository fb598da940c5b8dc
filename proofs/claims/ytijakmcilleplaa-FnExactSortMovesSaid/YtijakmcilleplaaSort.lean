import Derived.Test.YtijakmcilleplaaMoves
import Derived.Test.YtijakmcilleplaaRange2
import Derived.Test.YtijakmcilleplaaSortS
import Derived.Test.YtijakmcilleplaaHold
namespace Go.PM
open Go.RowKit
theorem filter_find (a : ByteArray) : ∀ xs : List Mv, (xs.map (·.1)).Nodup → xs.filter (fun m => decide (m.1 = a)) = (xs.find? (fun m => decide (m.1 = a))).toList
  | [], _ => rfl
  | m :: xs, h => by
    rw [List.map_cons, List.nodup_cons] at h
    by_cases hm : m.1 = a
    · have h2 : xs.filter (fun m => decide (m.1 = a)) = [] := by
        rw [List.filter_eq_nil_iff]
        intro y hy e
        have : y.1 = a := by simpa using e
        exact h.1 (List.mem_map.2 ⟨y, hy, by rw [this, hm]⟩)
      simp [hm, h2]
    · have ih := filter_find a xs h.2
      simp [hm, ih]
theorem filter_tab {xs : List Mv} (h : MV xs) (p : Nat) : xs.filter (atP p) = if hasT (tabOf xs) p then [(nm p, tabOf xs p)] else [] := by
  have h1 : xs.filter (atP p) = (xs.find? (fun m => decide (m.1 = nm p))).toList := filter_find (nm p) xs h.2
  rw [h1]
  unfold hasT
  cases hf : xs.find? (fun m => decide (m.1 = nm p)) with
  | none =>
    have : tabOf xs p = emp := by unfold tabOf; rw [hf]; rfl
    simp [this]
  | some m =>
    have e1 : m.1 = nm p := by simpa using List.find?_some hf
    have e2 : tabOf xs p = m.2 := by unfold tabOf; rw [hf]; rfl
    have hm := h.1 m (List.mem_of_find?_eq_some hf)
    unfold mok at hm; rw [Bool.and_eq_true] at hm
    have e3 : m.2 ≠ emp := fun e => by have := isS_size hm.2; rw [e] at this; cases this
    rw [e2, ← e1]
    simp [e3]
theorem mvT_flat (t : Nat → ByteArray) : ∀ l : List Nat, mvT t l = l.flatMap fun p => if hasT t p then [(nm p, t p)] else []
  | [] => rfl
  | p :: l => by
    have ih := mvT_flat t l
    rw [List.flatMap_cons, ← ih]
    unfold mvT
    cases h : hasT t p <;> simp [h]
theorem sortM_mvT {xs : List Mv} (h : MV xs) : sortM xs = mvT (tabOf xs) (List.range 9) := by
  have hm : mvalid xs = true := by simpa [mvalid] using h
  rw [sortM, if_pos hm, sortO, mvT_flat]
  congr 1
  funext p
  exact filter_tab h p
theorem mvT_len (t : Nat → ByteArray) {pre : List Mv} (h : pre <+: mvT t (List.range 9)) : pre.length ≤ 9 := by
  have h1 := h.length_le
  have h2 : (mvT t (List.range 9)).length ≤ 9 := by
    unfold mvT
    rw [List.length_map]
    have := List.length_filter_le (hasT t) (List.range 9)
    simpa using this
  omega
theorem own_box_ne {w : World} {base : Nat} {e t : TypeId} {size n b : Nat} {v : Value} {cs : List Value} {c : Array Value} (h : w.ownsRow base e size v n cs) (hA : At w b t c) (hne : e ≠ t) : some b ≠ v.ownBlock := by
  rcases h.2 with ⟨rfl, _⟩ | ⟨g, cap, cur, rfl, _, hg, _⟩
  · simp [Value.ownBlock]
  · intro e'
    simp only [Value.ownBlock, Option.some.injEq] at e'
    subst e'
    unfold At at hA
    rw [hA] at hg
    cases hg
    exact hne rfl
/-- a row of one's own outlasts the turn of a block that is no cells -/
theorem own_turn {w w' : World} {base : Nat} {e : TypeId} {size n : Nat} {v : Value} {cs : List Value} {row : Option Nat} (h : w.ownsRow base e size v n cs) (hg : w.grownBy w' row) (hr : ∀ r, row = some r → ∃ o : Obj, w.heap[r]? = some o ∧ o.isCells = false) : w'.ownsRow base e size v n cs := by
  refine h.kept hg ?_
  rcases h.2 with ⟨rfl, _⟩ | ⟨g, cap, cur, rfl, _, hh, _⟩
  · exact .inl rfl
  · refine .inr fun e' => ?_
    obtain ⟨o, ho, hc⟩ := hr g e'.symm
    rw [hh] at ho
    cases ho
    cases hc
theorem At.turn {w w' : World} {b : Nat} {t : TypeId} {c : Array Value} {row : Option Nat} (h : At w b t c) (hg : w.grownBy w' row) (hr : ∀ r, row = some r → ∃ o : Obj, w.heap[r]? = some o ∧ o.isCells = false) : At w' b t c := by
  refine h.grown hg fun e' => ?_
  obtain ⟨o, ho, hc⟩ := hr b e'.symm
  unfold At at h
  rw [h] at ho
  cases ho
  cases hc
end Go.PM
namespace Go.Proofs.Ytijakmcilleplaa
open Go.RowKit Go.PM
attribute [local go_sem] Oper.semAt_some

theorem appIn_mv {F : Fence} {k : Nat} {ops : Array Oper} {rest : List Oper} {o : Oper} {a : Act} {Q : Exit → Act → World → Prop} {w : World} (hgd : o.guard = none) (s x : Operand)
    (ho : o.op = .call { callee := .builtin .append, args := #[s, x], argTypes := #[23, 23] })
    (base : Nat) (v : Value) (ys : List Mv) (m : Mv) (ad : Addr) (c : Nat) (hs : a.eval s = v) (hx : a.eval x = .slice (some ad) 1 c)
    (hown : w.ownsRow base 43 2 v ys.length (mcells ys)) (hnew : ∀ j u, [Value.string m.1, Value.string m.2][j]? = some u → w.cell? (ad.add j) = some u)
    (hlen : ys.length ≤ 1048576) (hbase : base ≤ w.heap.size)
    (h : ∀ v' w', w'.ownsRow base 43 2 v' (ys ++ [m]).length (mcells (ys ++ [m])) → w.grownBy w' v.ownBlock → wpListIn F k Try.prog ops Q rest (a.put o.dst v') w') : wpListIn F k Try.prog ops Q (o :: rest) a w := by
  obtain ⟨i0, hi0, hz0, hz1, hz2⟩ := info_parts infoMv
  refine wpListIn_append_own w hgd s x _ ho base 43 i0 _ 2 32 Try.underlying23 hi0 hz0 hz1 hz2 rfl (by omega) v ys.length (mcells ys) hs hown ad 1 c [Value.string m.1, Value.string m.2] hx rfl hnew
    (by intro u hu; simp at hu; rcases hu with rfl | rfl <;> rfl) (by simp only [maxLen]; omega) (by omega) hbase ?_
  intro v' w' h2 h3 _
  refine h v' w' ?_ h3
  rw [mcells_append, List.length_append]
  simpa [mcells] using h2

set_option maxRecDepth 100000 in
set_option maxHeartbeats 2000000 in
theorem imSortMoves_c (xs : List Mv) (v : Value) (w : World) (hx : RdM w v xs) :
    Calls Try.prog 32 #[v] w fun e w' => ∃ v', e = .returned (.tuple #[v', .bool (mvalid xs)]) ∧ w'.ownsRow w.heap.size 43 2 v' (sortM xs).length (mcells (sortM xs)) ∧ Below w.heap.size w w' := by
  by_cases h1 : MV xs
  · have HT := Lib.hid (tableOf_yes xs h1 v w hx)
    have HM := Lib.hid (show mvalid xs = true by simpa [mvalid] using h1)
    have HS := Lib.hid (sortM_mvT h1)
    clear h1 hx
    generalize tabOf xs = t at *
    refine (callsIn_wide (n := 5)).1 ?_
    refine callsIn_of_wp_marks Try.func32 rfl trivial ?_ rfl
    simp only [Try.ntmps32, List.size_toArray, List.length_cons, List.length_nil, Nat.reduceAdd, Nat.reduceSub, Array.replicate_succ, Array.replicate_zero, List.push_toArray, List.append_toArray, List.nil_append, List.cons_append]
    gi_wp2_with fail
    refine ⟨trivial, callsIn_wide.2 (HT.out.mono ?_)⟩
    rintro e w1 ⟨rfl, hb1⟩
    have hs1 := hb1.size
    gi_wp2
    obtain ⟨W0, hW0⟩ : ∃ W0 : World, W0 = (w1.alloc (.cells (tabA t) 59)).alloc (.cells #[.slice none 0 0] 23) := ⟨_, rfl⟩
    have hS0 : W0.heap.size = w1.heap.size + 2 := by rw [hW0]; simp only [World.size_alloc]
    have hB0 : Below w.heap.size w W0 := by rw [hW0]; (repeat' (first | (with_reducible exact Below.refl _ _) | (with_reducible assumption) | (with_reducible refine Below.alloc ?_ ?_ _) | (with_reducible refine Below.drew ?_) | (with_reducible refine Below.setCell ?_ ?_ _) | (with_reducible exact Nat.le_refl _) | omega | (simp only [World.size_alloc, World.size_setCell, World.size_drew]; omega) | (simp; omega) | (simp; done)))
    have hA0 : At W0 (w1.heap.size + 1) 23 #[.slice none 0 0] := by
      rw [hW0]; have := At.new (w1.alloc (.cells (tabA t) 59)) 23 #[.slice none 0 0]
      rwa [World.size_alloc] at this
    rw [← hW0]
    clear hW0
    refine range_law2 (F := Fence.wide) (gf := 67) (lf := #[tabX t]) (lb := #[]) rfl (by decide) rfl trivial (fun args w => rfl) (encs := fun m : Mv => #[.agg #[.string m.1, .string m.2]]) (xs := mvT t (List.range 9)) (κ := 2)
      (moves_iter t) (fun _ => rfl)
      (fun pre W => ∃ o, At W (w1.heap.size + 1) 23 #[o] ∧ W.ownsRow (W0.heap.size + 4) 43 2 o pre.length (mcells pre) ∧ Below w.heap.size w W)
      (fun _ _ _ => False) ?_ (fun _ => ownFrom_pure _ _) ?_
      (fun m a' W => ∃ b, At W b 43 #[.string m.1, .string m.2] ∧ a' = { tmps := #[v, undef, .slice none 0 0, .bool false, .pointer (some ⟨w1.heap.size, 0, none⟩), .bool true, .pointer (some ⟨w1.heap.size + 1, 0, none⟩), .pointer (some ⟨b, 0, none⟩), .tuple #[tabX t, .bool true], v, .tuple #[tabX t, .bool true], tabX t, .bool true, .bool true, .bool false, tabX t, .func (.func 67) #[tabX t] #[], .agg #[.string m.1, .string m.2], undef, undef, undef, undef, undef], defers := [] }) ?_ ?_ ?_ ?_ ?_
    · rintro s A A' row ⟨o, k1, k2, k3⟩ hg hr
      exact ⟨o, k1.turn hg (fun r e => (hr r e).2), own_turn k2 hg (fun r e => (hr r e).2), k3.trans (below_grown hg k3.size (fun g e => by have := (hr g e).1; omega))⟩
    · exact ⟨_, hA0, ⟨rfl, .inl ⟨rfl, rfl⟩⟩, hB0⟩
    · rintro m a' s A A' row ⟨b, k1, k2⟩ hg hr
      exact ⟨b, k1.turn hg (fun r e => (hr r e).2), k2⟩
    · intro l pre m W K hI hp hsz hK
      obtain ⟨o, k1, k2, k3⟩ := hI
      have r1 : ∃ o, At (W.alloc (.cells #[.string m.1, .string m.2] 43)) (w1.heap.size + 1) 23 #[o] ∧ (W.alloc (.cells #[.string m.1, .string m.2] 43)).ownsRow (W0.heap.size + 4) 43 2 o pre.length (mcells pre) ∧ Below w.heap.size w (W.alloc (.cells #[.string m.1, .string m.2] 43)) :=
        ⟨o, k1.alloc _, own_keep k2 ((Below.refl _ _).alloc (Nat.le_refl _) _), k3.alloc k3.size _⟩
      have r2 := At.new W 43 #[.string m.1, .string m.2]
      have r3 : KeepsNew W0.heap.size W (W.alloc (.cells #[.string m.1, .string m.2] 43)) := KeepsNew.below ((Below.refl _ _).alloc (Nat.le_refl _) _)
      clear k1 k2 k3
      gi_wp2
      exact hK _ _ r3 r1 ⟨_, r2, rfl⟩
    · rintro l pre m a' W ⟨o, k1, k2, k3⟩ ⟨b, q1, rfl⟩ hp hsz
      have hlen := mvT_len t (List.IsPrefix.trans (List.prefix_append pre [m]) hp)
      have hpn : (pre ++ [m]).length = pre.length + 1 := by simp
      have c1 : W.cell? ⟨b, 0, none⟩ = some (.string m.1) := q1.cell 0
      have c2 : W.cell? ⟨b, 1, none⟩ = some (.string m.2) := q1.cell 1
      have c3 : W.cell? ⟨w1.heap.size + 1, 0, none⟩ = some o := k1.cell 0
      have hl1 := k1.lt
      have hnw := two_new W (.string m.1) (.string m.2) 43
      gi_wp2_with (gi_at_builtin; refine held ?_)
      unfold Held
      refine appIn_mv rfl (.tmp 18) (.tmp 20) rfl (W0.heap.size + 4) o pre m ⟨W.heap.size, 0, none⟩ 1 (by rfl) (by rfl) (own_keep k2 ((Below.refl _ _).alloc (Nat.le_refl _) _)) hnw (by omega) (by simp; omega) ?_
      intro o' W3 hown3 hgrow3
      have j1 : At W3 (w1.heap.size + 1) 23 #[o] := (k1.alloc (.cells #[.string m.1, .string m.2] 43)).grown hgrow3 (own_box_ne k2 k1 (by decide))
      have d1 := j1.cell 0
      have d2 := j1.frozen 0
      have hge := own_block_ge k2
      have hK3 : KeepsFrom W0.heap.size W W3 := by
        refine ⟨Nat.le_trans (by simp) hgrow3.size, fun x ob hx1 hx2 hx3 => ?_⟩
        have hx4 := (Array.getElem?_eq_some_iff.1 hx2).1
        refine (hgrow3.block x (by simp; omega) (fun e => ?_)).trans ((Below.heap_alloc _ _ _ hx4).trans hx2)
        rcases k2.2 with ⟨rfl, _⟩ | ⟨g, cap, cur, rfl, _, hh, _⟩
        · cases e
        · cases e
          rw [hh] at hx2
          cases hx2
          cases hx3
      have hI3 : KeepsIn (W0.heap.size + 2) 2 W W3 := by
        refine ⟨Nat.le_trans (by simp) hgrow3.size, fun x hx1 hx2 => ?_⟩
        refine (hgrow3.block x (by simp; omega) (fun e => ?_)).trans (Below.heap_alloc _ _ _ (by omega))
        have := hge x e.symm
        omega
      have hB3 : Below w.heap.size w W3 := (k3.alloc k3.size _).trans (below_grown hgrow3 (by have := k3.size; simp; omega) (fun g e => by have := hge g e; omega))
      have hne3 := own_box_ne hown3 j1 (by decide)
      rw [hpn] at hown3
      obtain ⟨A3, cap3, rfl, _⟩ := Rd.of_own hown3
      have m1 : At (W3.setCell ⟨w1.heap.size + 1, 0, none⟩ (.slice A3 (pre.length + 1) cap3)) (w1.heap.size + 1) 23 #[.slice A3 (pre.length + 1) cap3] := j1.set 0 _
      clear hnw c1 c2 c3 k1 k2 k3 q1 hgrow3 hge
      gi_wp2
      refine ⟨hK3.trans ((KeepsOthers.setCell _ _ _).from _), ⟨by simp [World.size_setCell]; exact hI3.size, fun x hx1 hx2 => (heap_setCell_other _ _ _ _ (by simp; omega)).trans (hI3.same x hx1 hx2)⟩, _, m1, ?_, hB3.setCell (by simp; omega) _⟩
      rw [hpn]
      exact hown3.kept (grownBy_setCell' W3 (w1.heap.size + 1) _) (.inr hne3.symm)
    · intro D W hD hI hd
      obtain ⟨o, k1, k2, k3⟩ := hI
      have c3 : W.cell? ⟨w1.heap.size + 1, 0, none⟩ = some o := k1.cell 0
      have hown := own_more k2 (show w.heap.size ≤ W0.heap.size + 4 by omega)
      clear k1 k2
      gi_wp2
      refine ⟨by simp, .inl ⟨D, _, rfl, run_takeDeferred hd, ?_⟩⟩
      have hW2 : (W.putObj D (.deferred none)).ownsRow w.heap.size 43 2 o (sortM xs).length (mcells (sortM xs)) := by
        rw [HS.out]
        exact own_turn hown (grownBy_putObj' W D _) (fun r e => by cases e; exact ⟨_, hd, rfl⟩)
      have hR : ∀ tmps : Array Value, tmps.getD 2 undef = o → tmps.getD 3 undef = .bool true → (results Try.f32 tmps).run Try.prog (W.putObj D (.deferred none)) = .ok (.tuple #[o, .bool true]) (W.putObj D (.deferred none)) := fun tmps h2 h3 => by
        have h2' : tmps[2]?.getD undef = o := by simpa using h2
        have h3' : tmps[3]?.getD undef = .bool true := by simpa using h3
        simp [results, Try.results32, h2', h3']
      exact ⟨_, hR _ rfl rfl, _, by rw [HM.out], hW2, k3.trans ⟨rfl, rfl, rfl, by simp [World.putObj], fun k hk => World.putObj_heap_other (by have := k3.size; omega)⟩⟩
    · intro _ _ _ _ _ _ hf
      exact hf.elim
  · have HM := Lib.hid (show mvalid xs = false by simpa [mvalid] using h1)
    have HS := Lib.hid (show sortM xs = [] from if_neg (by rw [HM.out]; decide))
    have HT := Lib.hid (tableOf_no xs h1 v w hx)
    clear h1 hx
    go_enter Try.func32, Try.ntmps32
    go_wp2_with fail
    refine HT.out.mono ?_
    rintro e w1 ⟨rfl, hb1⟩
    have hs1 := hb1.size
    go_wp2
    go_ret2
    exact ⟨_, by rw [HM.out]; rfl, by rw [HS.out]; exact ⟨rfl, .inl ⟨rfl, rfl⟩⟩, by (repeat' (first | (with_reducible exact Below.refl _ _) | (with_reducible assumption) | (with_reducible refine Below.alloc ?_ ?_ _) | (with_reducible refine Below.drew ?_) | (with_reducible refine Below.setCell ?_ ?_ _) | (with_reducible exact Nat.le_refl _) | omega | (simp only [World.size_alloc, World.size_setCell, World.size_drew]; omega) | (simp; omega) | (simp; done)))⟩
end Go.Proofs.Ytijakmcilleplaa
