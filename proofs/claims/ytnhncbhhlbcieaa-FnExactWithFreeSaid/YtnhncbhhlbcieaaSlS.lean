import Derived.Test.YtnhncbhhlbcieaaSlP
import Derived.Test.YtnhncbhhlbcieaaTurn
import Derived.Test.YtnhncbhhlbcieaaHold
import Derived.Test.YtnhncbhhlbcieaaStpL
import Derived.Test.YtnhncbhhlbcieaaHar2
namespace Go.PD
open Go.PM Go.RowKit
theorem scells_oneP (xs : List St) : ∀ u ∈ scells xs, u.oneCell' = true := by
  intro u hu
  unfold scells at hu
  obtain ⟨x, _, hx⟩ := List.mem_flatMap.1 hu
  simp at hx
  rcases hx with rfl | rfl | rfl <;> rfl
theorem cells_new (w : World) (cs : Array Value) (t : TypeId) : ∀ (j : Nat) u, cs.toList[j]? = some u → (w.alloc (.cells cs t)).cell? ((⟨w.heap.size, 0, none⟩ : Addr).add j) = some u := by
  intro j u hu
  rw [show (⟨w.heap.size, 0, none⟩ : Addr).add j = ⟨w.heap.size, j, none⟩ by unfold Addr.add; split <;> simp_all]
  rw [(At.new w t cs).cell j]
  simpa using hu
end Go.PD
namespace Go.Proofs.Ytnhncbhhlbcieaa
open Go.RowKit Go.PM Go.PD Go.Lib
attribute [local go_sem] Oper.semAt_some

theorem infoStS : (Try.prog.info? 40).map (fun i => (i.zero, i.size, i.bytes)) = some (some (.agg #[.int .i64 0, .string ⟨#[]⟩, .string ⟨#[]⟩]), 3, 40) := by kernel_rfl
/-- append of some steps that have just been laid -/
theorem app_sts {ops : Array Oper} {rest : List Oper} {o : Oper} {a : Act} {Q : Exit → Act → World → Prop} {w : World} (hgd : o.guard = none) (s x : Operand)
    (ho : o.op = .call { callee := .builtin .append, args := #[s, x], argTypes := #[24, 24] })
    (base : Nat) (v : Value) (ys zs : List St) (ad : Addr) (c m : Nat) (hm : m = zs.length) (hm0 : 0 < m) (hs : a.eval s = v) (hx : a.eval x = .slice (some ad) m c)
    (hown : w.ownsRow base 40 3 v ys.length (scells ys)) (hnew : ∀ j u, (scells zs)[j]? = some u → w.cell? (ad.add j) = some u)
    (hlen : ys.length + zs.length ≤ 4194304) (hbase : base ≤ w.heap.size)
    (h : ∀ v' w', w'.ownsRow base 40 3 v' (ys ++ zs).length (scells (ys ++ zs)) → w.grownBy w' v.ownBlock → wpList Try.prog ops Q rest (a.put o.dst v') w') : wpList Try.prog ops Q (o :: rest) a w := by
  subst hm
  obtain ⟨i0, hi0, hz0, hz1, hz2⟩ := info_parts infoStS
  refine wpList_append_own w hgd s x _ ho base 40 i0 _ 3 40 Try.underlying24 hi0 hz0 hz1 hz2 rfl (by omega) v ys.length (scells ys) hs hown ad zs.length c (scells zs) hx (scells_length zs) hnew
    (scells_oneP zs) (by simp only [maxLen]; omega) (by omega) hbase ?_
  intro v' w' h2 h3 _
  refine h v' w' ?_ h3
  rw [List.length_append, scells_append]
  exact h2
theorem listIn_sts {F : Fence} {k : Nat} {ops : Array Oper} {rest : List Oper} {o : Oper} {a : Act} {Q : Exit → Act → World → Prop} {w : World} (hgd : o.guard = none) (s x : Operand)
    (ho : o.op = .call { callee := .builtin .append, args := #[s, x], argTypes := #[24, 24] })
    (base : Nat) (v : Value) (ys zs : List St) (ad : Addr) (c m : Nat) (hm : m = zs.length) (hm0 : 0 < m) (hs : a.eval s = v) (hx : a.eval x = .slice (some ad) m c)
    (hown : w.ownsRow base 40 3 v ys.length (scells ys)) (hnew : ∀ j u, (scells zs)[j]? = some u → w.cell? (ad.add j) = some u)
    (hlen : ys.length + zs.length ≤ 4194304) (hbase : base ≤ w.heap.size)
    (h : ∀ v' w', w'.ownsRow base 40 3 v' (ys ++ zs).length (scells (ys ++ zs)) → w.grownBy w' v.ownBlock → wpListIn F k Try.prog ops Q rest (a.put o.dst v') w') : wpListIn F k Try.prog ops Q (o :: rest) a w := by
  subst hm
  obtain ⟨i0, hi0, hz0, hz1, hz2⟩ := info_parts infoStS
  refine wpListIn_append_own w hgd s x _ ho base 40 i0 _ 3 40 Try.underlying24 hi0 hz0 hz1 hz2 rfl (by omega) v ys.length (scells ys) hs hown ad zs.length c (scells zs) hx (scells_length zs) hnew
    (scells_oneP zs) (by simp only [maxLen]; omega) (by omega) hbase ?_
  intro v' w' h2 h3 _
  refine h v' w' ?_ h3
  rw [List.length_append, scells_append]
  exact h2
theorem sliceIn_st2 {F : Fence} {n : Nat} {o : Oper} {a : Act} {w : World} {K : Act → World → Prop} {Q : Exit → Act → World → Prop} (x y : Operand) (ho : o.op = .buildSlice 24 2 #[(0, x), (1, y)]) (k k' : Int) (s t s' t' : ByteArray)
    (hx : a.eval x = .agg #[.int .i64 k, .string s, .string t]) (hy : a.eval y = .agg #[.int .i64 k', .string s', .string t'])
    (h : K (a.put o.dst (.slice (some ⟨w.heap.size, 0, none⟩) 2 2)) (w.alloc (.cells #[.int .i64 k, .string s, .string t, .int .i64 k', .string s', .string t'] 40))) : o.wpIn F n Try.prog a w K Q := by
  obtain ⟨i0, hi0, hz0, hz1, hz2⟩ := info_parts infoStS
  refine sliceIn 24 40 2 #[(0, x), (1, y)] ho #[.int .i64 k, .string s, .string t, .int .i64 k', .string s', .string t'] i0 _ Try.underlying24 hi0 hz0 (by rw [hz1]; decide) (by rw [hz1]; decide) ?_ h
  have hr : Array.range 6 = #[0, 1, 2, 3, 4, 5] := by decide
  simp [hx, hy, hz1, Instr.fill, Value.cells, hr]

end Go.Proofs.Ytnhncbhhlbcieaa
