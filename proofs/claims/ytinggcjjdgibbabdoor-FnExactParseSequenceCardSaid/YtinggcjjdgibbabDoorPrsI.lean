import Derived.Test.YtinggcjjdgibbabDoorParts
import Derived.Test.YtinggcjjdgibbabDoorParseM
import Derived.Test.YtinggcjjdgibbabDoorTurn
import Derived.Test.YtinggcjjdgibbabDoorIm2
import Derived.Laws.EntriesVeiled
namespace Go.PM
open Go.RowKit
theorem pcs_mem {t x : ByteArray} {pre : List ByteArray} (h : pre ++ [x] <+: pcsB 44 t) : x.size ≤ t.size := by
  have : x ∈ pcsB 44 t := h.mem (List.mem_append_right _ (List.mem_singleton_self x))
  rw [← cutP_pcs] at this
  exact cutP_size this
theorem tabC_one (f : Nat → ByteArray) : (tabC f).all (·.oneCell') = true := by simp [tabC, Value.oneCell']
theorem kf_grown {B : Nat} {A A' : World} {row : Option Nat} (hg : A.grownBy A' row) (hr : ∀ g o, row = some g → B ≤ g → A.heap[g]? = some o → o.isCells = true) : KeepsFrom B A A' :=
  ⟨hg.size, fun k o hk h1 h2 => (hg.block k (Array.getElem?_eq_some_iff.1 h1).1 (fun e => by have := hr k o e.symm hk h1; rw [h2] at this; cases this)).trans h1⟩
theorem own_cells {w : World} {base : Nat} {e : TypeId} {size n : Nat} {v : Value} {cs : List Value} (h : w.ownsRow base e size v n cs) : ∀ g o, v.ownBlock = some g → w.heap[g]? = some o → o.isCells = true := by
  intro g o e1 e2
  rcases h.2 with ⟨rfl, _⟩ | ⟨g2, cap, cur, rfl, _, hh, _⟩
  · cases e1
  · cases e1
    rw [hh] at e2
    cases e2
    rfl
end Go.PM
namespace Go.Proofs.YtinggcjjdgibbabDoor
open Go.RowKit Go.PM
attribute [local go_sem] Oper.semAt_some

theorem partsOf_c (t s : ByteArray) (w : World) :
    Calls Tryd.prog 27 #[.string t, .string s] w fun e w' => e = .returned (.func (.func 54) #[] #[.pointer (some ⟨w.heap.size, 0, none⟩), .pointer (some ⟨w.heap.size + 1, 0, none⟩)]) ∧ At w' w.heap.size 9 #[.string t] ∧ At w' (w.heap.size + 1) 9 #[.string s] ∧ Below w.heap.size w w' := by
  go_enter Tryd.func27, Tryd.ntmps27
  go_wp2
  go_ret
  refine ⟨rfl, (At.new _ _ _).alloc _, ?_, by (repeat' (first | (with_reducible exact Below.refl _ _) | (with_reducible assumption) | (with_reducible refine Below.alloc ?_ ?_ _) | (with_reducible refine Below.drew ?_) | (with_reducible refine Below.setCell ?_ ?_ _) | (with_reducible exact Nat.le_refl _) | omega | ((repeat (first | rewrite [World.size_alloc] | rewrite [World.size_setCell] | rewrite [World.size_drew])); omega) | (simp; omega) | (simp; done)))⟩
  have := At.new (w.alloc (.cells #[.string t] 9)) 9 #[.string s]
  rwa [World.size_alloc] at this
end Go.Proofs.YtinggcjjdgibbabDoor
