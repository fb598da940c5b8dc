import Derived.Test.YtjmbmfemlkicmaaDoorRows
import Derived.Test.YtjmbmfemlkicmaaDoorPm
import Derived.Test.YtjmbmfemlkicmaaDoorShelf
namespace Go.Proofs.YtjmbmfemlkicmaaDoor
open Go.RowKit Go.PM Go.Lib

theorem digits_mem (c : UInt8) : c ∈ ([48, 49, 50, 51, 52, 53, 54, 55, 56, 57] : List UInt8) ↔ 48 ≤ c.toNat ∧ c.toNat ≤ 57 := by
  constructor
  · intro h
    simp only [List.mem_cons, List.not_mem_nil, or_false] at h
    rcases h with rfl | rfl | rfl | rfl | rfl | rfl | rfl | rfl | rfl | rfl <;> decide
  · intro ⟨h1, h2⟩
    obtain ⟨n, hn⟩ : ∃ n, c.toNat = n := ⟨_, rfl⟩
    have hc : c = UInt8.ofNat n := by rw [← hn]; simp
    subst hc
    rw [hn] at h1 h2
    have : n = 48 ∨ n = 49 ∨ n = 50 ∨ n = 51 ∨ n = 52 ∨ n = 53 ∨ n = 54 ∨ n = 55 ∨ n = 56 ∨ n = 57 := by omega
    rcases this with rfl | rfl | rfl | rfl | rfl | rfl | rfl | rfl | rfl | rfl <;> decide
end Go.Proofs.YtjmbmfemlkicmaaDoor
