import Derived.Test.YtogkodjlbdlgjaaDraw
import Derived.Test.YtogkodjlbdlgjaaParse
namespace Go.PM
open Go.RowKit
def shortM (xs : List Mv) : Prop := xs.length ≤ 64 ∧ ∀ m ∈ xs, m.1.size ≤ 64 ∧ m.2.size ≤ 64
theorem prsM_short {t : ByteArray} (h : t.size ≤ 40) : shortM (prsM t) := by
  have hL : shortM (prsL t) := by
    refine ⟨?_, fun m hm => ?_⟩
    · have := cutP_len t 44
      simp only [prsL, List.length_map]
      omega
    · obtain ⟨x, hx, rfl⟩ := List.mem_map.1 hm
      have := cutP_size hx
      simp only [pM, ByteArray.size_extract]
      omega
  unfold prsM
  split
  · exact ⟨Nat.zero_le _, fun m hm => by cases hm⟩
  · split
    · exact hL
    · exact ⟨Nat.zero_le _, fun m hm => by cases hm⟩
end Go.PM
namespace Go.Proofs.Ytogkodjlbdlgjaa
open Go.RowKit Go.PM

set_option maxRecDepth 100000 in
set_option maxHeartbeats 1600000 in
theorem l1Any_c (w : World) (B r : Nat) (p : Int) (hr : Rdr w 120 B r p) (p1 : p ≤ 1099511627776) :
    Calls Try.prog 72 #[.pointer (some ⟨r, 0, none⟩)] w fun e w' => ∃ s, e = .returned (.string s) ∧ s.size ≤ 40 ∧ Rdr w' 120 B r (p + 1) ∧ w.grownBy w' (some r) := by
  have hlt : r < w.heap.size := by obtain ⟨_, _, v, n, _, _, h⟩ := hr; exact h.lt
  go_enter Try.func72, Try.ntmps72
  go_wp2_with fail
  refine (of_c _ B r w.heap.size 11 p (fun s => s.size ≤ 40) (hr.keep ((Below.refl _ _).alloc (Nat.le_refl _) _)) (by decide) (by decide) p1 (Lits.strs _ _ _ 40 (by rfl)) (by omega)).mono ?_
  rintro e w1 ⟨s, rfl, hs, R1, g1⟩
  go_wp2
  go_ret
  exact ⟨s, rfl, hs, R1, grown_trans (grown_below ((Below.refl _ _).alloc (Nat.le_refl _) _) _) g1⟩

set_option maxRecDepth 100000 in
set_option maxHeartbeats 1600000 in
theorem l1Known_c (w : World) (k : Nat) (hk : k < 13) :
    Calls Try.prog 147 #[.int .i64 k] w fun e w' => ∃ v xs, e = .returned v ∧ w'.ownsRow w.heap.size 65 2 v xs.length (mcells xs) ∧ shortM xs ∧ Below w.heap.size w w' := by
  have H : ∀ (t : ByteArray) (W : World), t.size ≤ 40 → Below w.heap.size w W → Calls Try.prog 160 #[.string t] W fun e w' => ∃ v' b, e = .returned (.tuple #[v', .bool b]) ∧ ∃ xs, w'.ownsRow w.heap.size 65 2 v' xs.length (mcells xs) ∧ shortM xs ∧ Below w.heap.size w w' := fun t W ht hb =>
    (spParseMoves_c t W (by omega)).mono fun e w' ⟨v', h1, h2, h3⟩ => ⟨v', _, h1, _, own_more h2 hb.size, prsM_short ht, hb.trans (h3.mono hb.size)⟩
  have HH := Lib.hid H
  clear H
  rcases (show k = 0 ∨ k = 1 ∨ k = 2 ∨ k = 3 ∨ k = 4 ∨ k = 5 ∨ k = 6 ∨ k = 7 ∨ k = 8 ∨ k = 9 ∨ k = 10 ∨ k = 11 ∨ k = 12 by omega) with rfl | rfl | rfl | rfl | rfl | rfl | rfl | rfl | rfl | rfl | rfl | rfl | rfl
  all_goals
    clear hk
    go_enter Try.func147, Try.ntmps147
    go_wp2_with fail
    refine (HH.out _ _ (by decide) ((Below.refl _ _).alloc (Nat.le_refl _) _)).mono ?_
    rintro e w1 ⟨v', b, rfl, xs, h1, h2, h3⟩
    go_wp2
    go_ret
    exact ⟨_, xs, rfl, h1, h2, h3⟩

end Go.Proofs.Ytogkodjlbdlgjaa
