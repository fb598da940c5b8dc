import Derived.Test.YtdhhmphnmllbhaaDraw3
namespace Go.Proofs.Ytdhhmphnmllbhaa
open Go.RowKit Go.PM

set_option maxRecDepth 100000 in
set_option maxHeartbeats 1600000 in
theorem l2State_c (w : World) (B r : Nat) (p : Int) (hr : Rdr w 111 B r p) (p1 : p ≤ 1000000) :
    Calls Try.prog 68 #[.pointer (some ⟨r, 0, none⟩)] w fun e w' => ∃ s p', e = .returned (.string s) ∧ s.size ≤ 500 ∧ Rdr w' 111 B r p' ∧ p' ≤ p + 16 ∧ w.grownBy w' (some r) := by
  have hlt : r < w.heap.size := by obtain ⟨_, _, v, n, _, _, h⟩ := hr; exact h.lt
  go_enter Try.func68, Try.ntmps68
  go_wp2
  go_loopw [3, 4] (fun o i wr => ∃ (j : Nat) (t : ByteArray) (q : Int), j ≤ 11 ∧ i = .int .i64 j ∧ o = .string t ∧ t.size ≤ 40 * j ∧ Rdr wr 111 B r q ∧ q ≤ p + j ∧ w.grownBy wr (some r)) (fun _ i _ => 11 - (intOf i).toNat)
  case atStart => exact ⟨0, ⟨#[]⟩, p, by omega, rfl, rfl, Nat.zero_le _, hr, by omega, grown_refl _ _⟩
  case round =>
    obtain ⟨j, t, q, hj, rfl, rfl, ht, R, hq, G⟩ := hrel
    have hsr := G.size
    by_cases hlt2 : j < 11
    · have i1 : (j : Int) < 11 := by omega
      go_wp2_with fail
      refine (of_c _ B r wr.heap.size 6 q (fun s => s.size ≤ 40) (R.keep ((Below.refl _ _).alloc (Nat.le_refl _) _)) (by decide) (by decide) (by omega) (Lits.strs _ _ _ 40 (by rfl)) (by omega)).mono ?_
      rintro e w3 ⟨s1, rfl, hz1, R3, g3⟩
      have G3 := grown_trans G (grown_trans (grown_below ((Below.refl _ _).alloc (Nat.le_refl _) _) (some r)) g3)
      go_wp2
      go_roundw
      case rel => exact ⟨j + 1, t ++ s1, _, by omega, by go_num, rfl, by rw [ByteArray.size_append]; omega, R3, by omega, G3⟩
      case measure => simp [intOf] <;> omega
    · have HP := Lib.hid (pick_c wr B r 24 q R (by omega) (by omega) (by omega))
      go_wp2_with fail
      refine HP.out.mono ?_
      rintro e w2 ⟨k, rfl, k0, k1, R2, g2⟩
      have G2 := grown_trans G g2
      have hs2 := G2.size
      clear HP G g2 R
      by_cases h0 : k = 0
      · subst h0
        go_wp2_with fail
        refine (of_c _ B r w2.heap.size 2 (q + 1) (fun s => s.size ≤ 40) (R2.keep ((Below.refl _ _).alloc (Nat.le_refl _) _)) (by decide) (by decide) (by omega) (Lits.strs _ _ _ 40 (by rfl)) (by omega)).mono ?_
        rintro e w3 ⟨s1, rfl, hz1, R3, g3⟩
        have G3 := grown_trans G2 (grown_trans (grown_below ((Below.refl _ _).alloc (Nat.le_refl _) _) (some r)) g3)
        go_wp2
        go_ret
        exact ⟨_, _, rfl, by rw [ByteArray.size_append]; omega, R3, by omega, G3⟩
      · have t0 : (k == 0) = false := by simpa using h0
        have HP := Lib.hid (pick_c w2 B r 24 (q + 1) R2 (by omega) (by omega) (by omega))
        go_wp2_with fail
        refine HP.out.mono ?_
        rintro e w3 ⟨k2, rfl, k20, k21, R3, g3⟩
        have G3 := grown_trans G2 g3
        have hs3 := G3.size
        clear HP G2 g3 R2
        by_cases h02 : k2 = 0
        · subst h02
          go_wp2_with fail
          refine (of_c _ B r w3.heap.size 3 (q + 1 + 1) (fun s => s.size ≤ 40) (R3.keep ((Below.refl _ _).alloc (Nat.le_refl _) _)) (by decide) (by decide) (by omega) (Lits.strs _ _ _ 40 (by rfl)) (by omega)).mono ?_
          rintro e w4 ⟨s1, rfl, hz1, R4, g4⟩
          have G4 := grown_trans G3 (grown_trans (grown_below ((Below.refl _ _).alloc (Nat.le_refl _) _) (some r)) g4)
          go_wp2
          go_ret
          exact ⟨s1, _, rfl, by omega, R4, by omega, G4⟩
        · have t2 : (k2 == 0) = false := by simpa using h02
          go_wp2
          go_ret
          exact ⟨t, _, rfl, by omega, R3, by omega, G3⟩
end Go.Proofs.Ytdhhmphnmllbhaa
