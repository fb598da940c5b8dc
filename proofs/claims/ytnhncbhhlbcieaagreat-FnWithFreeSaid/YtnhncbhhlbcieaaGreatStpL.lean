import Derived.Test.YtnhncbhhlbcieaaGreatLate2
import Derived.Test.YtnhncbhhlbcieaaGreatColl
namespace Go.PS
open Go.PM Go.RowKit
/-- swaps as steps -/
def swS (p : Nat × Nat) : St := (1, nm p.1, nm p.2)
def swL (ps : List (Nat × Nat)) : List St := ps.map swS
theorem swL_app (ps qs : List (Nat × Nat)) : swL (ps ++ qs) = swL ps ++ swL qs := by simp [swL]
theorem swL_len (ps : List (Nat × Nat)) : (swL ps).length = ps.length := by simp [swL]
theorem scells_one (xs : List St) : ∀ u ∈ scells xs, u.oneCell' = true := by
  intro u hu
  unfold scells at hu
  obtain ⟨x, _, hx⟩ := List.mem_flatMap.1 hu
  simp at hx
  rcases hx with rfl | rfl | rfl <;> rfl
theorem op_k {F : Fence} {n : Nat} {P : Program} {o : Oper} {a : Act} {w : World} {X : Act → World → Prop} {Q : Exit → Act → World → Prop} (h : ∀ K : Act → World → Prop, (∀ a w, X a w → K a w) → Oper.wpIn F n P o a w K Q) : Oper.wpIn F n P o a w X Q := h X fun _ _ h => h
/-- the cells of a row of one's own, at its address -/
theorem own_cellsAt {w : World} {base : Nat} {e : TypeId} {n b cap : Nat} {xs : List Value} {size : Nat} (h : w.ownsRow base e size (.slice (some ⟨b, 0, none⟩) n cap) n xs) : ∀ j u, xs[j]? = some u → w.cell? ((⟨b, 0, none⟩ : Addr).add j) = some u := by
  intro j u hu
  have hj : j < n * size := by have := (List.getElem?_eq_some_iff.1 hu).1; rw [h.1] at this; exact this
  rw [show (⟨b, 0, none⟩ : Addr).add j = ⟨b, j, none⟩ by unfold Addr.add; split <;> simp_all]
  rw [h.cellAt j hj]; exact hu
end Go.PS
namespace Go.Proofs.YtnhncbhhlbcieaaGreat
open Go.RowKit Go.PM Go.PS
theorem infoSt3 : (Tryz.prog.info? 58).map (fun i => (i.zero, i.size, i.bytes)) = some (some (.agg #[.int .i64 0, .string ⟨#[]⟩, .string ⟨#[]⟩]), 3, 40) := by kernel_rfl
theorem sliceIn_st {F : Fence} {n : Nat} {o : Oper} {a : Act} {w : World} {K : Act → World → Prop} {Q : Exit → Act → World → Prop} (x : Operand) (ho : o.op = .buildSlice 23 1 #[(0, x)]) (k : Int) (s t : ByteArray) (hx : a.eval x = .agg #[.int .i64 k, .string s, .string t])
    (h : K (a.put o.dst (.slice (some ⟨w.heap.size, 0, none⟩) 1 1)) (w.alloc (.cells #[.int .i64 k, .string s, .string t] 58))) : o.wpIn F n Tryz.prog a w K Q := by
  obtain ⟨i0, hi0, hz0, hz1, hz2⟩ := info_parts infoSt3
  refine sliceIn 23 58 1 #[(0, x)] ho #[.int .i64 k, .string s, .string t] i0 _ Tryz.underlying23 hi0 hz0 (by rw [hz1]; decide) (by rw [hz1]; decide) ?_ h
  have hr : Array.range 3 = #[0, 1, 2] := by decide
  simp [hx, hz1, Instr.fill, Value.cells, hr]
theorem listIn_st {F : Fence} {k : Nat} {ops : Array Oper} {rest : List Oper} {o : Oper} {a : Act} {Q : Exit → Act → World → Prop} {w : World} (hgd : o.guard = none) (s x : Operand)
    (ho : o.op = .call { callee := .builtin .append, args := #[s, x], argTypes := #[23, 23] })
    (base : Nat) (v : Value) (ys : List St) (m : St) (ad : Addr) (c : Nat) (hs : a.eval s = v) (hx : a.eval x = .slice (some ad) 1 c)
    (hown : w.ownsRow base 58 3 v ys.length (scells ys)) (hnew : ∀ j u, [Value.int .i64 m.1, Value.string m.2.1, Value.string m.2.2][j]? = some u → w.cell? (ad.add j) = some u)
    (hlen : ys.length ≤ 1048576) (hbase : base ≤ w.heap.size)
    (h : ∀ v' w', w'.ownsRow base 58 3 v' (ys ++ [m]).length (scells (ys ++ [m])) → w.grownBy w' v.ownBlock → wpListIn F k Tryz.prog ops Q rest (a.put o.dst v') w') : wpListIn F k Tryz.prog ops Q (o :: rest) a w := by
  obtain ⟨i0, hi0, hz0, hz1, hz2⟩ := info_parts infoSt3
  refine wpListIn_append_own w hgd s x _ ho base 58 i0 _ 3 40 Tryz.underlying23 hi0 hz0 hz1 hz2 rfl (by omega) v ys.length (scells ys) hs hown ad 1 c [Value.int .i64 m.1, Value.string m.2.1, Value.string m.2.2] hx rfl hnew
    (by intro u hu; simp at hu; rcases hu with rfl | rfl | rfl <;> rfl) (by simp only [maxLen]; omega) (by omega) hbase ?_
  intro v' w' h2 h3 _
  refine h v' w' ?_ h3
  have hcs : scells ys ++ [Value.int .i64 m.1, Value.string m.2.1, Value.string m.2.2] = scells (ys ++ [m]) := by rw [scells_append]; simp [scells]
  rw [← hcs, List.length_append]
  simpa using h2
/-- append of a whole row of steps -/
theorem run_app_rows (w : World) (ty : TypeId) (base base2 : Nat) (v v2 : Value) (ys zs : List St) (hown : w.ownsRow base 58 3 v ys.length (scells ys)) (hown2 : w.ownsRow base2 58 3 v2 zs.length (scells zs))
    (hlen : ys.length + zs.length ≤ 1048576) (hbase : base ≤ w.heap.size) :
    ∃ v' w', (Builtin.append_ #[23, 23] ty #[v, v2]).run Tryz.prog w = .ok v' w' ∧ w'.ownsRow base 58 3 v' (ys ++ zs).length (scells (ys ++ zs)) ∧ w.grownBy w' v.ownBlock := by
  obtain ⟨i0, hi0, hz0, hz1, hz2⟩ := info_parts infoSt3
  have hc2 := hown2.2
  rcases hc2 with ⟨rfl, hn⟩ | ⟨g, cap, cur, rfl, _, _, _⟩
  · have hz : zs = [] := List.length_eq_zero_iff.1 hn
    subst hz
    refine ⟨v, w, run_append_owned_none w base 23 ty 58 i0 3 Tryz.underlying23 hi0 v ys.length (scells ys) hown, by simpa using hown, grown_refl _ _⟩
  · obtain ⟨v', w', hr, r1, r2, _⟩ := run_append_own (P := Tryz.prog) w base 23 ty 58 i0 _ 3 40 Tryz.underlying23 hi0 hz0 hz1 hz2 rfl (by omega) v ys.length (scells ys) hown ⟨g, 0, none⟩ zs.length cap (scells zs) (scells_length zs) (own_cellsAt hown2) (scells_one zs) (by simp only [maxLen]; omega) (by omega) hbase
    refine ⟨v', w', hr, ?_, r2⟩
    rw [List.length_append, scells_append]; exact r1
theorem listIn_rows {F : Fence} {k : Nat} {ops : Array Oper} {rest : List Oper} {o : Oper} {a : Act} {Q : Exit → Act → World → Prop} {w : World} (hgd : o.guard = none) (s x : Operand)
    (ho : o.op = .call { callee := .builtin .append, args := #[s, x], argTypes := #[23, 23] })
    (base base2 : Nat) (v v2 : Value) (ys zs : List St) (hs : a.eval s = v) (hx : a.eval x = v2)
    (hown : w.ownsRow base 58 3 v ys.length (scells ys)) (hown2 : w.ownsRow base2 58 3 v2 zs.length (scells zs))
    (hlen : ys.length + zs.length ≤ 1048576) (hbase : base ≤ w.heap.size)
    (h : ∀ v' w', w'.ownsRow base 58 3 v' (ys ++ zs).length (scells (ys ++ zs)) → w.grownBy w' v.ownBlock → wpListIn F k Tryz.prog ops Q rest (a.put o.dst v') w') : wpListIn F k Tryz.prog ops Q (o :: rest) a w := by
  refine wpListIn_plain hgd fun K hK' => ?_
  obtain ⟨v', w', hrun, r1, r2⟩ := run_app_rows w o.type base base2 v v2 ys zs hown hown2 hlen hbase
  unfold Oper.wpIn
  refine ⟨?_, ?_⟩
  · simp [Oper.about, ho, resolve, Target.leads, Sem.run_pure]
  · rw [Oper.semAt_plain F _ _ (by rw [ho]; intro c hc'; cases hc')]
    simp [execOp, ho, resolve, invoke, builtin, hs, hx, hrun, Result.andThen]
    exact hK' _ _ (h v' w' r1 r2)
end Go.Proofs.YtnhncbhhlbcieaaGreat
