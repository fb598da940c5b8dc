import Derived.Test.YtjmbmfemlkicmaaDoorDraw1
namespace Go.PM
open Go.RowKit
def strOk1 (n : Nat) : Value → Bool
  | .string s => decide (1 ≤ s.size) && decide (s.size ≤ n)
  | _ => false
theorem Lits.strs1 (w : World) (t : TypeId) (cs : Array Value) (n : Nat) (h : cs.toList.all (strOk1 n) = true) : Lits (w.alloc (.cells cs t)) w.heap.size cs.size (fun u => ∃ s, u = .string s ∧ 1 ≤ s.size ∧ s.size ≤ n) :=
  Lits.new w t cs _ fun u hu => by
    have h2 := List.all_eq_true.1 h u hu
    unfold strOk1 at h2
    split at h2
    · rw [Bool.and_eq_true, decide_eq_true_eq, decide_eq_true_eq] at h2
      exact ⟨_, rfl, h2⟩
    · cases h2
theorem grown_over {a b c : World} {row row' : Option Nat} (h : a.grownBy b row) (k : b.grownBy c row') (hn : ∀ g, row' = some g → a.heap.size ≤ g) : a.grownBy c row :=
  ⟨k.os.trans h.os, k.tape.trans h.tape, k.output.trans h.output, Nat.le_trans h.size k.size, fun i hi hne => (k.block i (Nat.lt_of_lt_of_le hi h.size) (fun e => by have := hn i e.symm; omega)).trans (h.block i hi hne)⟩
theorem Rdr.grow {w w' : World} {t : TypeId} {B r : Nat} {p : Int} {row : Option Nat} (h : Rdr w t B r p) (hg : w.grownBy w' row) (hne : ∀ g, row = some g → r < g) : Rdr w' t B r p := by
  obtain ⟨h1, h0, v, n, hn, h2, h3⟩ := h
  exact ⟨h1, h0, v, n, hn, h2.keep hg (fun g e => by have := hne g e; omega), h3.grown hg (fun e => by have := hne r e.symm; omega)⟩
end Go.PM
namespace Go.Proofs.YtjmbmfemlkicmaaDoor
open Go.RowKit Go.PM
open Go.Lib (indexByte)

end Go.Proofs.YtjmbmfemlkicmaaDoor
