import Derived.Test.YtdhhmphnmllbhaaTakI
import Derived.Stop.RegionWithIn
namespace Go.PM
open Go.RowKit
theorem leastK_ex {P : Nat → Prop} : ∀ n, P n → ∃ m, P m ∧ ∀ k, P k → m ≤ k := by
  intro n
  induction n using Nat.strongRecOn with
  | ind n ih =>
    intro h
    by_cases h2 : ∃ m, m < n ∧ P m
    · obtain ⟨m, h3, h4⟩ := h2; exact ih m h3 h4
    · exact ⟨n, h, fun k hk => Nat.le_of_not_lt fun hlt => h2 ⟨k, hlt, hk⟩⟩
open Classical in
/-- the least number of which P holds -/
noncomputable def leastK (P : Nat → Prop) : Nat := if h : ∃ m, P m ∧ ∀ k, P k → m ≤ k then Classical.choose h else 0
theorem leastK_spec {P : Nat → Prop} (h : ∃ n, P n) : P (leastK P) ∧ ∀ k, P k → leastK P ≤ k := by
  obtain ⟨n, hn⟩ := h
  have hx := leastK_ex n hn
  unfold leastK
  rw [dif_pos hx]
  exact Classical.choose_spec hx
/-- what the ordering holds at the head of a round: k steps are enough for what waits -/
def OrdR (B : Nat) (e : TypeId) (v : Value) (xs : List Mv) (J : Option Nat → List Mv → World → Prop) (k : Nat) (wv : Value) (A : World) : Prop :=
  ∃ (pre ws : List Mv) (r : Option Nat), pre ++ ordF k ws = ordF 19 xs ∧ Wt ws ∧ muW ws ≤ k ∧ ws.length ≤ 9 ∧ J r pre A ∧ HeldW B e v xs r A wv ws ∧ B ≤ A.heap.size
end Go.PM
namespace Go.Proofs.Ytdhhmphnmllbhaa
open Go.RowKit Go.PM

end Go.Proofs.Ytdhhmphnmllbhaa
