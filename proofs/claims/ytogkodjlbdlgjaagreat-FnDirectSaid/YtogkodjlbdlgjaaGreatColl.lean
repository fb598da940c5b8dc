import Derived.Test.YtogkodjlbdlgjaaGreatRangeR
import Derived.Test.YtogkodjlbdlgjaaGreatList
import Derived.Test.YtogkodjlbdlgjaaGreatP2
namespace Go.PM
open Go.RowKit
/-- a move as a step -/
def stpM (m : Mv) : St := (0, m.1, m.2)
def stL (ms : List Mv) : List St := ms.map stpM
theorem three_new (w : World) (a b c : Value) (t : TypeId) : ∀ j u, [a, b, c][j]? = some u → (w.alloc (.cells #[a, b, c] t)).cell? ((⟨w.heap.size, 0, none⟩ : Addr).add j) = some u := by
  intro j u hj
  match j, hj with
  | 0, hj => simp at hj; subst hj; simp [Addr.add]
  | 1, hj => simp at hj; subst hj; simp [Addr.add]
  | 2, hj => simp at hj; subst hj; simp [Addr.add]
theorem wpListIn_lies {F : Fence} {k : Nat} {P : Program} {w : World} {ops : Array Oper} {rest : List Oper} {o : Oper} {a : Act} {Q : Exit → Act → World → Prop} (hgd : o.guard = none) (s x : Operand) (t : TypeId)
    (ho : o.op = .call { callee := .builtin .append, args := #[s, x], argTypes := #[t, t] })
    (base : Nat) (e : TypeId) (i : TypeInfo) (z : Value) (size bytes : Nat) (ht : P.underlying t = some (.slice e)) (hi : P.info? e = some i) (hz : i.zero = some z)
    (hsize : i.size = size) (hby : i.bytes = bytes) (hzs : z.cells.size = size) (hsz : 0 < size)
    (v : Value) (n : Nat) (xs : List Value) (hs : a.eval s = v) (hown : w.ownsRow base e size v n xs)
    (ad : Addr) (m c : Nat) (news : List Value) (hx : a.eval x = .slice (some ad) m c) (hl : news.length = m * size) (hnews : ∀ j u, news[j]? = some u → w.cell? (ad.add j) = some u) (h1 : ∀ u ∈ news, u.oneCell' = true)
    (hm : 0 < m) (h63 : n + m ≤ maxLen) (hbytes : (n + m) * bytes ≤ 140737488355328) (hbase : base ≤ w.heap.size)
    (h : ∀ g cap w', w'.ownsRow base e size (.slice (some ⟨g, 0, none⟩) (n + m) cap) (n + m) (xs ++ news) → w.grownBy w' v.ownBlock → (v.ownBlock = some g ∨ g = w.heap.size) → g < w'.heap.size → wpListIn F k P ops Q rest (a.put o.dst (.slice (some ⟨g, 0, none⟩) (n + m) cap)) w') : wpListIn F k P ops Q (o :: rest) a w := by
  refine wpListIn_plain hgd fun K hK' => ?_
  obtain ⟨g, cap, w', hr, h2, h3, h4, h5⟩ := run_append_lies (P := P) w t o.type base e i z size bytes ht hi hz hsize hby hzs hsz v n xs hown ad m c news hl hnews h1 hm h63 hbytes hbase _ rfl
  unfold Oper.wpIn
  refine ⟨?_, ?_⟩
  · simp [Oper.about, ho, resolve, Target.leads, Sem.run_pure]
  · rw [Oper.semAt_plain F _ _ (by rw [ho]; intro c hc'; cases hc')]
    simp [execOp, ho, resolve, invoke, builtin, hs, hx, hr, Result.andThen]
    exact hK' _ _ (h g cap w' h2 h3 h4 h5)
/-- a row of one's own, and where it lies -/
def RowAt (A : World) (bx : Nat) (bt base : Nat) (e : TypeId) (size : Nat) (r : Option Nat) (n : Nat) (cs : List Value) (o : Value) : Prop :=
  At A bx bt #[o] ∧ A.ownsRow base e size o n cs ∧ o.ownBlock = r
theorem RowAt.turn {A A' : World} {bx bt base : Nat} {e : TypeId} {size : Nat} {r : Option Nat} {n : Nat} {cs : List Value} {o : Value} {row : Option Nat} (h : RowAt A bx bt base e size r n cs o) (hg : A.grownBy A' row) (hr : ∀ q, row = some q → ∃ ob : Obj, A.heap[q]? = some ob ∧ ob.isCells = false) : RowAt A' bx bt base e size r n cs o :=
  ⟨h.1.turn hg hr, own_turn h.2.1 hg hr, h.2.2⟩
theorem RowAt.lives {A : World} {bx bt base : Nat} {e : TypeId} {size : Nat} {r : Option Nat} {n : Nat} {cs : List Value} {o : Value} (h : RowAt A bx bt base e size r n cs o) : ∀ g, r = some g → ∃ ob : Obj, A.heap[g]? = some ob ∧ ob.isCells = true := by
  intro g hg
  obtain ⟨_, h2, h3⟩ := h
  rcases h2.2 with ⟨rfl, _⟩ | ⟨g', cap, cur, rfl, _, hh, _⟩
  · rw [hg] at h3; cases h3
  · rw [hg] at h3
    cases h3
    exact ⟨_, hh, rfl⟩
end Go.PM
namespace Go.Proofs.YtogkodjlbdlgjaaGreat
open Go.RowKit Go.PM
attribute [local go_sem] Oper.semAt_some

theorem infoStp : (Tryz.prog.info? 33).map (fun i => (i.zero, i.size, i.bytes)) = some (some (.agg #[.int .i64 0, .string ⟨#[]⟩, .string ⟨#[]⟩]), 3, 40) := by kernel_rfl
set_option maxRecDepth 100000 in
set_option maxHeartbeats 2000000 in
/-- the moves that a function hands out, as a list of steps -/
theorem collS_c {Pr : World → Prop} (gf : Nat) (lf lb : Array Value) (eg : ∀ args W, (callFunc gf args).run Tryz.prog W = .ok (.enter gf args) W) (xs : List Mv) (hit : IterR Pr Fence.wide 4 Tryz.prog gf (fun y => lf ++ #[y] ++ lb) (fun m : Mv => #[.agg #[.int .i64 0, .string m.1, .string m.2]]) xs)
    (w : World) (hPr : ∀ A, Below w.heap.size w A → Pr A) (hlen : xs.length ≤ 1048575) :
    Calls Tryz.prog 52 #[.slice none 0 0, .func (.func gf) lf lb] w fun e w' => ∃ v', e = .returned v' ∧ w'.ownsRow w.heap.size 33 3 v' xs.length (scells (stL xs)) ∧ Below w.heap.size w w' := by
  refine (callsIn_wide (n := 5)).1 ?_
  refine callsIn_of_wp_marks Tryz.func52 rfl trivial ?_ rfl
  simp only [Tryz.ntmps52, List.size_toArray, List.length_cons, List.length_nil, Nat.reduceAdd, Nat.reduceSub, Array.replicate_succ, Array.replicate_zero, List.push_toArray, List.append_toArray, List.nil_append, List.cons_append]
  have hA0 : At (w.alloc (.cells #[.slice none 0 0] 25)) w.heap.size 25 #[.slice none 0 0] := At.new _ _ _
  have hB0 : Below w.heap.size w (w.alloc (.cells #[.slice none 0 0] 25)) := (Below.refl _ _).alloc (Nat.le_refl _) _
  gi_wp2
  refine range_lawR (F := Fence.wide) (gf := gf) (lf := lf) (lb := lb) rfl (by decide) rfl trivial eg (encs := fun m : Mv => #[.agg #[.int .i64 0, .string m.1, .string m.2]]) (xs := xs)
    hit (fun _ => rfl)
    (fun r pre W => (∃ o, RowAt W w.heap.size 25 w.heap.size 33 3 r pre.length (scells (stL pre)) o) ∧ Below w.heap.size w W) none ?_ ?_ ?_
    (fun m a' W => ∃ b, At W b 33 #[.int .i64 0, .string m.1, .string m.2] ∧ a' = { tmps := #[.slice none 0 0, .func (.func gf) lf lb, .pointer (some ⟨w.heap.size, 0, none⟩), undef, .slice none 0 0, .pointer (some ⟨b, 0, none⟩), .func (.func gf) lf lb, .agg #[.int .i64 0, .string m.1, .string m.2], undef, undef, undef, undef, undef], defers := [] }) ?_ ?_ ?_ ?_
  · rintro r pre A ⟨⟨o, ho⟩, hb⟩
    exact ⟨hPr A hb, ho.lives⟩
  · rintro r s A A' row ⟨⟨o, ho⟩, hb⟩ hg hr
    exact ⟨⟨o, ho.turn hg (fun q e => (hr q e).2)⟩, hb.trans (below_grown hg hb.size (fun g e => by have := (hr g e).1; simp at this; omega))⟩
  · exact ⟨⟨_, hA0, ⟨rfl, .inl ⟨rfl, rfl⟩⟩, rfl⟩, hB0⟩
  · rintro m a' s A A' row ⟨b, k1, k2⟩ hg hr
    exact ⟨b, k1.turn hg (fun r e => (hr r e).2), k2⟩
  · intro l r pre m W K hI hp hsz hK
    obtain ⟨⟨o, k1, k2, k3⟩, k4⟩ := hI
    have hbl : Below W.heap.size W (W.alloc (.cells #[.int .i64 0, .string m.1, .string m.2] 33)) := (Below.refl _ _).alloc (Nat.le_refl _) _
    have r1 : (∃ o, RowAt (W.alloc (.cells #[.int .i64 0, .string m.1, .string m.2] 33)) w.heap.size 25 w.heap.size 33 3 r pre.length (scells (stL pre)) o) ∧ Below w.heap.size w (W.alloc (.cells #[.int .i64 0, .string m.1, .string m.2] 33)) :=
      ⟨⟨o, k1.alloc _, own_keep k2 hbl, k3⟩, k4.alloc k4.size _⟩
    have r2 := At.new W 33 #[.int .i64 0, .string m.1, .string m.2]
    clear k1 k2 k3 k4
    gi_wp2
    exact hK _ _ hbl r1 ⟨_, r2, rfl⟩
  · rintro l r pre m a' W ⟨⟨o, k1, k2, k0⟩, k3⟩ ⟨b, q1, rfl⟩ hp hsz
    have hpl : pre.length + 1 ≤ xs.length := by have := hp.length_le; simpa using this
    have hpn : (pre ++ [m]).length = pre.length + 1 := by simp
    have c0 : W.cell? ⟨b, 0, none⟩ = some (.int .i64 0) := q1.cell 0
    have c1 : W.cell? ⟨b, 1, none⟩ = some (.string m.1) := q1.cell 1
    have c2 : W.cell? ⟨b, 2, none⟩ = some (.string m.2) := q1.cell 2
    have c3 : W.cell? ⟨w.heap.size, 0, none⟩ = some o := k1.cell 0
    have hl1 := k1.lt
    have hnw := three_new W (.int .i64 0) (.string m.1) (.string m.2) 33
    gi_wp2_with (gi_at_builtin; refine held ?_)
    unfold Held
    obtain ⟨i0, hi0, hz0, hz1, hz2⟩ := info_parts infoStp
    refine wpListIn_lies rfl (.tmp 8) (.tmp 10) 25 rfl w.heap.size 33 i0 _ 3 40 Tryz.underlying25 hi0 hz0 hz1 hz2 rfl (by omega) o pre.length (scells (stL pre)) (by rfl) (own_keep k2 ((Below.refl _ _).alloc (Nat.le_refl _) _)) ⟨W.heap.size, 0, none⟩ 1 1 [Value.int .i64 0, Value.string m.1, Value.string m.2] (by rfl) rfl hnw
      (by intro u hu; simp at hu; rcases hu with rfl | rfl | rfl <;> rfl) (by omega) (by simp only [maxLen]; omega) (by omega) (by simp; have := k3.size; omega) ?_
    intro g cap W3 hown3 hgrow3 hlies hg3
    have j1 : At W3 w.heap.size 25 #[o] := (k1.alloc (.cells #[.int .i64 0, .string m.1, .string m.2] 33)).grown hgrow3 (own_box_ne k2 k1 (by decide))
    have d1 := j1.cell 0
    have d2 := j1.frozen 0
    have hge := own_block_ge k2
    have hge3 := own_block_ge hown3
    have hne3 := own_box_ne hown3 j1 (by decide)
    have hcs : scells (stL pre) ++ [Value.int .i64 0, Value.string m.1, Value.string m.2] = scells (stL (pre ++ [m])) := by unfold stL; rw [List.map_append, scells_append]; simp [scells, stpM]
    rw [hcs, ← hpn] at hown3
    have m1 : At (W3.setCell ⟨w.heap.size, 0, none⟩ (.slice (some ⟨g, 0, none⟩) (pre.length + 1) cap)) w.heap.size 25 #[.slice (some ⟨g, 0, none⟩) (pre.length + 1) cap] := j1.set 0 _
    have hown4 := hown3.kept (grownBy_setCell' W3 w.heap.size _) (.inr hne3.symm) (w' := W3.setCell ⟨w.heap.size, 0, none⟩ (.slice (some ⟨g, 0, none⟩) (pre.length + 1) cap))
    have hB3 : Below w.heap.size w W3 := (k3.alloc k3.size _).trans (below_grown hgrow3 (by have := k3.size; simp; omega) (fun g e => hge g e))
    have hst : RowStep (w.heap.size + 1) r (some g) W (W3.setCell ⟨w.heap.size, 0, none⟩ (.slice (some ⟨g, 0, none⟩) (pre.length + 1) cap)) := by
      have hz3 := hgrow3.size
      simp at hz3
      refine ⟨by simp [World.size_setCell]; omega, fun k h1 h2 h3 => ?_, ?_⟩
      · rw [heap_setCell_other _ _ _ _ (by simp; omega), hgrow3.block k (by simp; omega) (by rw [k0]; exact h3)]
        exact Below.heap_alloc _ _ _ h2
      · rcases hlies with h | h
        · exact .inl (by rw [← h, k0])
        · exact .inr fun q e => by cases e; rw [h]; simp
    rw [hpn] at hown4
    have fin : ∃ r', ((∃ o, RowAt (W3.setCell ⟨w.heap.size, 0, none⟩ (.slice (some ⟨g, 0, none⟩) (pre.length + 1) cap)) w.heap.size 25 w.heap.size 33 3 r' (pre ++ [m]).length (scells (stL (pre ++ [m]))) o) ∧ Below w.heap.size w (W3.setCell ⟨w.heap.size, 0, none⟩ (.slice (some ⟨g, 0, none⟩) (pre.length + 1) cap))) ∧
        RowStep (w.alloc (.cells #[.slice none 0 0] 25)).heap.size r r' W (W3.setCell ⟨w.heap.size, 0, none⟩ (.slice (some ⟨g, 0, none⟩) (pre.length + 1) cap)) := by
      refine ⟨some g, ⟨⟨_, m1, ?_, rfl⟩, hB3.setCell (by simp) _⟩, by rw [World.size_alloc]; exact hst⟩
      rw [hpn]; exact hown4
    clear hnw c0 c1 c2 c3 k1 k2 k3 q1 hgrow3 hge hcs hown3 hown4 m1 hst hB3 hlies
    gi_wp2
    exact fin
  · intro D r W hD hI hd
    obtain ⟨⟨o, k1, k2, _⟩, k3⟩ := hI
    have c3 : W.cell? ⟨w.heap.size, 0, none⟩ = some o := k1.cell 0
    clear k1
    gi_wp2
    refine ⟨by simp, .inl ⟨D, _, rfl, run_takeDeferred hd, ?_⟩⟩
    exact ⟨_, results_tmp rfl _ _ _, _, rfl, own_turn k2 (grownBy_putObj' W D _) (fun r e => by cases e; exact ⟨_, hd, rfl⟩), k3.trans ⟨rfl, rfl, rfl, by simp [World.putObj], fun k hk => World.putObj_heap_other (by simp at hD; omega)⟩⟩
set_option maxRecDepth 100000 in
theorem collectS_c {Pr : World → Prop} (gf : Nat) (lf lb : Array Value) (eg : ∀ args W, (callFunc gf args).run Tryz.prog W = .ok (.enter gf args) W) (xs : List Mv) (hit : IterR Pr Fence.wide 4 Tryz.prog gf (fun y => lf ++ #[y] ++ lb) (fun m : Mv => #[.agg #[.int .i64 0, .string m.1, .string m.2]]) xs)
    (w : World) (hPr : ∀ A, Below w.heap.size w A → Pr A) (hlen : xs.length ≤ 1048575) :
    Calls Tryz.prog 23 #[.func (.func gf) lf lb] w fun e w' => ∃ v', e = .returned v' ∧ w'.ownsRow w.heap.size 33 3 v' xs.length (scells (stL xs)) ∧ Below w.heap.size w w' := by
  have HC := Lib.hid (collS_c gf lf lb eg xs hit w hPr hlen)
  go_enter Tryz.func23, Tryz.ntmps23
  go_wp2_with (go_at_call 52; refine HC.out.mono ?_; rintro e w' ⟨v', rfl, ho, hb⟩)
  go_ret
  exact ⟨_, rfl, ho, hb⟩
end Go.Proofs.YtogkodjlbdlgjaaGreat
