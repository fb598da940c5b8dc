import Derived.Test.YthgcoocgeekdnaaDoorMoves
import Derived.Test.YthgcoocgeekdnaaDoorRange2
import Derived.Test.YthgcoocgeekdnaaDoorHold
namespace Go.PM
open Go.RowKit
theorem mvT_len (t : Nat → ByteArray) {pre : List Mv} (h : pre <+: mvT t (List.range 9)) : pre.length ≤ 9 := by
  have h1 := h.length_le
  have h2 : (mvT t (List.range 9)).length ≤ 9 := by
    unfold mvT
    rw [List.length_map]
    have := List.length_filter_le (hasT t) (List.range 9)
    simpa using this
  omega
theorem own_box_ne {w : World} {base : Nat} {e t : TypeId} {size n b : Nat} {v : Value} {cs : List Value} {c : Array Value} (h : w.ownsRow base e size v n cs) (hA : At w b t c) (hne : e ≠ t) : some b ≠ v.ownBlock := by
  rcases h.2 with ⟨rfl, _⟩ | ⟨g, cap, cur, rfl, _, hg, _⟩
  · simp [Value.ownBlock]
  · intro e'
    simp only [Value.ownBlock, Option.some.injEq] at e'
    subst e'
    unfold At at hA
    rw [hA] at hg
    cases hg
    exact hne rfl
/-- a row of one's own outlasts the turn of a block that is no cells -/
theorem own_turn {w w' : World} {base : Nat} {e : TypeId} {size n : Nat} {v : Value} {cs : List Value} {row : Option Nat} (h : w.ownsRow base e size v n cs) (hg : w.grownBy w' row) (hr : ∀ r, row = some r → ∃ o : Obj, w.heap[r]? = some o ∧ o.isCells = false) : w'.ownsRow base e size v n cs := by
  refine h.kept hg ?_
  rcases h.2 with ⟨rfl, _⟩ | ⟨g, cap, cur, rfl, _, hh, _⟩
  · exact .inl rfl
  · refine .inr fun e' => ?_
    obtain ⟨o, ho, hc⟩ := hr g e'.symm
    rw [hh] at ho
    cases ho
    cases hc
theorem At.turn {w w' : World} {b : Nat} {t : TypeId} {c : Array Value} {row : Option Nat} (h : At w b t c) (hg : w.grownBy w' row) (hr : ∀ r, row = some r → ∃ o : Obj, w.heap[r]? = some o ∧ o.isCells = false) : At w' b t c := by
  refine h.grown hg fun e' => ?_
  obtain ⟨o, ho, hc⟩ := hr b e'.symm
  unfold At at h
  rw [h] at ho
  cases ho
  cases hc
end Go.PM
namespace Go.Proofs.YthgcoocgeekdnaaDoor
open Go.RowKit Go.PM
attribute [local go_sem] Oper.semAt_some

theorem appIn_mv {F : Fence} {k : Nat} {ops : Array Oper} {rest : List Oper} {o : Oper} {a : Act} {Q : Exit → Act → World → Prop} {w : World} (hgd : o.guard = none) (s x : Operand)
    (ho : o.op = .call { callee := .builtin .append, args := #[s, x], argTypes := #[47, 47] })
    (base : Nat) (v : Value) (ys : List Mv) (m : Mv) (ad : Addr) (c : Nat) (hs : a.eval s = v) (hx : a.eval x = .slice (some ad) 1 c)
    (hown : w.ownsRow base 98 2 v ys.length (mcells ys)) (hnew : ∀ j u, [Value.string m.1, Value.string m.2][j]? = some u → w.cell? (ad.add j) = some u)
    (hlen : ys.length ≤ 1048576) (hbase : base ≤ w.heap.size)
    (h : ∀ v' w', w'.ownsRow base 98 2 v' (ys ++ [m]).length (mcells (ys ++ [m])) → w.grownBy w' v.ownBlock → wpListIn F k Tryd.prog ops Q rest (a.put o.dst v') w') : wpListIn F k Tryd.prog ops Q (o :: rest) a w := by
  obtain ⟨i0, hi0, hz0, hz1, hz2⟩ := info_parts infoMv
  refine wpListIn_append_own w hgd s x _ ho base 98 i0 _ 2 32 Tryd.underlying47 hi0 hz0 hz1 hz2 rfl (by omega) v ys.length (mcells ys) hs hown ad 1 c [Value.string m.1, Value.string m.2] hx rfl hnew
    (by intro u hu; simp at hu; rcases hu with rfl | rfl <;> rfl) (by simp only [maxLen]; omega) (by omega) hbase ?_
  intro v' w' h2 h3 _
  refine h v' w' ?_ h3
  rw [mcells_append, List.length_append]
  simpa [mcells] using h2

end Go.Proofs.YthgcoocgeekdnaaDoor
