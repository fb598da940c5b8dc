import Derived.Test.YtjmbmfemlkicmaaDoorIm2
import Derived.Test.YtjmbmfemlkicmaaDoorSp1
import Derived.Test.YtjmbmfemlkicmaaDoorHar
namespace Go.PM
open Go.RowKit
theorem own_block_ge {w : World} {base : Nat} {e : TypeId} {size n : Nat} {v : Value} {cs : List Value} (h : w.ownsRow base e size v n cs) : ∀ g, v.ownBlock = some g → base ≤ g := by
  intro g hg
  rcases h.2 with ⟨rfl, _⟩ | ⟨g', cap, cur, rfl, hb, _⟩
  · cases hg
  · cases hg; exact hb
theorem two_new (w : World) (a b : Value) (t : TypeId) : ∀ j u, [a, b][j]? = some u → (w.alloc (.cells #[a, b] t)).cell? ((⟨w.heap.size, 0, none⟩ : Addr).add j) = some u := by
  intro j u hj
  match j, hj with
  | 0, hj => simp at hj; subst hj; simp [Addr.add]
  | 1, hj => simp at hj; subst hj; simp [Addr.add]
def busyM (xs : List Mv) : List Mv := xs.filter fun m => decide (m.1 ≠ m.2)
theorem busyM_step (xs : List Mv) (k : Nat) (hk : k < xs.length) : busyM (xs.take (k+1)) = if xs[k].1 = xs[k].2 then busyM (xs.take k) else busyM (xs.take k) ++ [xs[k]] := by
  unfold busyM
  rw [take_snoc xs k hk, List.filter_append]
  by_cases h : xs[k].1 = xs[k].2
  · simp [h]
  · simp [h]
theorem busyM_le (xs : List Mv) : (busyM xs).length ≤ xs.length := List.length_filter_le _ _
def dropM (xs : List Mv) : List Mv := if mvalid xs then busyM xs else []
theorem dropM_le (xs : List Mv) : (dropM xs).length ≤ xs.length := by
  unfold dropM; split
  · exact busyM_le xs
  · simp
/-- rows that two calls have made lie in two blocks -/
theorem own_ne {a b : World} {x y : Nat} {e e' : TypeId} {s s' n n' : Nat} {u v : Value} {cs cs' : List Value} (hu : a.ownsRow x e s u n cs) (hv : b.ownsRow y e' s' v n' cs') (h : a.heap.size ≤ y) :
    u.ownBlock ≠ v.ownBlock ∨ v.ownBlock = none := by
  rcases hv.2 with ⟨rfl, _⟩ | ⟨g, cap, cur, rfl, hb, hg, _⟩
  · exact .inr rfl
  · left
    rcases hu.2 with ⟨rfl, _⟩ | ⟨g', cap', cur', rfl, hb', hg', _⟩
    · simp [Value.ownBlock]
    · simp only [Value.ownBlock, ne_eq, Option.some.injEq]
      have : g' < a.heap.size := by
        rcases Nat.lt_or_ge g' a.heap.size with hlt | hge
        · exact hlt
        · rw [Array.getElem?_eq_none hge] at hg'; cases hg'
      omega
theorem own_more {w : World} {b b' : Nat} {e : TypeId} {s n : Nat} {v : Value} {cs : List Value} (h : w.ownsRow b e s v n cs) (hb : b' ≤ b) : w.ownsRow b' e s v n cs := by
  refine ⟨h.1, ?_⟩
  rcases h.2 with h' | ⟨g, cap, cur, rfl, hbg, hr⟩
  · exact .inl h'
  · exact .inr ⟨g, cap, cur, rfl, Nat.le_trans hb hbg, hr⟩
theorem ne_turn {a b : Option Nat} (h : a ≠ b ∨ b = none) : b ≠ a ∨ a = none := by
  cases a with
  | none => exact .inr rfl
  | some x =>
    left
    rcases h with h | h
    · exact h.symm
    · rw [h]; exact fun e => by cases e
theorem own_grown {w w' : World} {b : Nat} {e : TypeId} {s n : Nat} {v : Value} {cs : List Value} {row : Option Nat} (h : w.ownsRow b e s v n cs) (hg : w.grownBy w' row) (hne : v.ownBlock ≠ row ∨ row = none) : w'.ownsRow b e s v n cs := by
  refine ⟨h.1, ?_⟩
  rcases h.2 with h' | ⟨g, cap, cur, rfl, hbg, hh, hr⟩
  · exact .inl h'
  · refine .inr ⟨g, cap, cur, rfl, hbg, ?_, hr⟩
    have hlt : g < w.heap.size := by
      rcases Nat.lt_or_ge g w.heap.size with hlt | hge
      · exact hlt
      · rw [Array.getElem?_eq_none hge] at hh; cases hh
    rw [hg.block g hlt ?_]; exact hh
    rcases hne with h1 | h1
    · exact h1
    · rw [h1]; simp
end Go.PM
namespace Go.Proofs.YtjmbmfemlkicmaaDoor
open Go.RowKit Go.PM


end Go.Proofs.YtjmbmfemlkicmaaDoor
