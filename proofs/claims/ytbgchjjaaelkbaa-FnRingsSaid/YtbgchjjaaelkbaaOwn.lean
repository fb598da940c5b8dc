import Derived.Test.YtbgchjjaaelkbaaApp
import Derived.Test.YtbgchjjaaelkbaaRange
namespace Go.PM
open Go.RowKit
theorem own_box_ne' {w : World} {base : Nat} {e t : TypeId} {size n b : Nat} {v : Value} {cs : List Value} {c : Array Value} (h : w.ownsRow base e size v n cs) (hA : At w b t c) (hne : e ≠ t) : some b ≠ v.ownBlock := by
  rcases h.2 with ⟨rfl, _⟩ | ⟨g, cap, cur, rfl, _, hg, _⟩
  · simp [Value.ownBlock]
  · intro e'
    simp only [Value.ownBlock, Option.some.injEq] at e'
    subst e'
    unfold At at hA
    rw [hA] at hg
    cases hg
    exact hne rfl
theorem own_turn' {w w' : World} {base : Nat} {e : TypeId} {size n : Nat} {v : Value} {cs : List Value} {row : Option Nat} (h : w.ownsRow base e size v n cs) (hg : w.grownBy w' row) (hr : ∀ r, row = some r → ∃ o : Obj, w.heap[r]? = some o ∧ o.isCells = false) : w'.ownsRow base e size v n cs := by
  refine h.kept hg ?_
  rcases h.2 with ⟨rfl, _⟩ | ⟨g, cap, cur, rfl, _, hh, _⟩
  · exact .inl rfl
  · refine .inr fun e' => ?_
    obtain ⟨o, ho, hc⟩ := hr g e'.symm
    rw [hh] at ho
    cases ho
    cases hc
theorem at_turn' {w w' : World} {b : Nat} {t : TypeId} {c : Array Value} {row : Option Nat} (h : At w b t c) (hg : w.grownBy w' row) (hr : ∀ r, row = some r → ∃ o : Obj, w.heap[r]? = some o ∧ o.isCells = false) : At w' b t c := by
  refine (hg.block b h.lt fun e' => ?_).trans h
  obtain ⟨o, ho, hc⟩ := hr b e'.symm
  unfold At at h
  rw [h] at ho
  cases ho
  cases hc
theorem at_grown' {w w' : World} {b : Nat} {t : TypeId} {cs : Array Value} {row : Option Nat} (h : At w b t cs) (hg : w.grownBy w' row) (hne : some b ≠ row) : At w' b t cs := (hg.block b h.lt hne).trans h
end Go.PM
