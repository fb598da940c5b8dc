import Derived.Test.YtnhncbhhlbcieaaGreatDraw
import Derived.Test.YtnhncbhhlbcieaaGreatParse
namespace Go.PM
open Go.RowKit
def shortM (xs : List Mv) : Prop := xs.length ≤ 64 ∧ ∀ m ∈ xs, m.1.size ≤ 64 ∧ m.2.size ≤ 64
theorem prsM_short {t : ByteArray} (h : t.size ≤ 40) : shortM (prsM t) := by
  have hL : shortM (prsL t) := by
    refine ⟨?_, fun m hm => ?_⟩
    · have := cutP_len t 44
      simp only [prsL, List.length_map]
      omega
    · obtain ⟨x, hx, rfl⟩ := List.mem_map.1 hm
      have := cutP_size hx
      simp only [pM, ByteArray.size_extract]
      omega
  unfold prsM
  split
  · exact ⟨Nat.zero_le _, fun m hm => by cases hm⟩
  · split
    · exact hL
    · exact ⟨Nat.zero_le _, fun m hm => by cases hm⟩
end Go.PM
namespace Go.Proofs.YtnhncbhhlbcieaaGreat
open Go.RowKit Go.PM

set_option maxRecDepth 100000 in
set_option maxHeartbeats 1600000 in
theorem l1Known_c (w : World) (k : Nat) (hk : k < 13) :
    Calls Tryz.prog 77 #[.int .i64 k] w fun e w' => ∃ v xs, e = .returned v ∧ w'.ownsRow w.heap.size 56 2 v xs.length (mcells xs) ∧ shortM xs ∧ Below w.heap.size w w' := by
  have H : ∀ (t : ByteArray) (W : World), t.size ≤ 40 → Below w.heap.size w W → Calls Tryz.prog 91 #[.string t] W fun e w' => ∃ v' b, e = .returned (.tuple #[v', .bool b]) ∧ ∃ xs, w'.ownsRow w.heap.size 56 2 v' xs.length (mcells xs) ∧ shortM xs ∧ Below w.heap.size w w' := fun t W ht hb =>
    (spParseMoves_c t W (by omega)).mono fun e w' ⟨v', h1, h2, h3⟩ => ⟨v', _, h1, _, own_more h2 hb.size, prsM_short ht, hb.trans (h3.mono hb.size)⟩
  have HH := Lib.hid H
  clear H
  rcases (show k = 0 ∨ k = 1 ∨ k = 2 ∨ k = 3 ∨ k = 4 ∨ k = 5 ∨ k = 6 ∨ k = 7 ∨ k = 8 ∨ k = 9 ∨ k = 10 ∨ k = 11 ∨ k = 12 by omega) with rfl | rfl | rfl | rfl | rfl | rfl | rfl | rfl | rfl | rfl | rfl | rfl | rfl
  all_goals
    clear hk
    go_enter Tryz.func77, Tryz.ntmps77
    go_wp2_with fail
    refine (HH.out _ _ (by decide) ((Below.refl _ _).alloc (Nat.le_refl _) _)).mono ?_
    rintro e w1 ⟨v', b, rfl, xs, h1, h2, h3⟩
    go_wp2
    go_ret
    exact ⟨_, xs, rfl, h1, h2, h3⟩

end Go.Proofs.YtnhncbhhlbcieaaGreat
