import Derived.Test.YtpbaomnhchljbaaDraw3
namespace Go.Proofs.Ytpbaomnhchljbaa
open Go.RowKit Go.PM

set_option maxRecDepth 100000 in
set_option maxHeartbeats 1600000 in
theorem l2State_c (w : World) (B r : Nat) (p : Int) (hr : Rdr w 100 B r p) (p1 : p ≤ 1000000) :
    Calls Try.prog 44 #[.pointer (some ⟨r, 0, none⟩)] w fun e w' => ∃ s p', e = .returned (.string s) ∧ s.size ≤ 500 ∧ Rdr w' 100 B r p' ∧ p' ≤ p + 16 ∧ w.grownBy w' (some r) := by
  have hlt : r < w.heap.size := by obtain ⟨_, _, v, n, _, _, h⟩ := hr; exact h.lt
  go_enter Try.func44, Try.ntmps44
  go_wp2
  go_loopw [3, 4] (fun o i wr => ∃ (j : Nat) (t : ByteArray) (q : Int), j ≤ 11 ∧ i = .int .i64 j ∧ o = .string t ∧ t.size ≤ 40 * j ∧ Rdr wr 100 B r q ∧ q ≤ p + j ∧ w.grownBy wr (some r)) (fun _ i _ => 11 - (intOf i).toNat)
  case atStart => exact ⟨0, ⟨#[]⟩, p, by omega, rfl, rfl, Nat.zero_le _, hr, by omega, grown_refl _ _⟩
  case round =>
    obtain ⟨j, t, q, hj, rfl, rfl, ht, R, hq, G⟩ := hrel
    have hsr := G.size
    by_cases hlt2 : j < 11
    · have i1 : (j : Int) < 11 := by omega
      go_wp2_with fail
      refine (of_c _ B r wr.heap.size 6 q (fun s => s.size ≤ 40) (R.keep ((Below.refl _ _).alloc (Nat.le_refl _) _)) (by decide) (by decide) (by omega) (Lits.strs _ _ _ 40 (by rfl)) (by omega)).mono ?_
      rintro e w3 ⟨s1, rfl, hz1, R3, g3⟩
      have G3 := grown_trans G (grown_trans (grown_below ((Below.refl _ _).alloc (Nat.le_refl _) _) (some r)) g3)
      go_wp2
      go_roundw
      case rel => exact ⟨j + 1, t ++ s1, _, by omega, by go_num, rfl, by rw [ByteArray.size_append]; omega, R3, by omega, G3⟩
      case measure => simp [intOf] <;> omega
    · have HP := Lib.hid (pick_c wr B r 24 q R (by omega) (by omega) (by omega))
      go_wp2_with fail
      refine HP.out.mono ?_
      rintro e w2 ⟨k, rfl, k0, k1, R2, g2⟩
      have G2 := grown_trans G g2
      have hs2 := G2.size
      clear HP G g2 R
      by_cases h0 : k = 0
      · subst h0
        go_wp2_with fail
        refine (of_c _ B r w2.heap.size 2 (q + 1) (fun s => s.size ≤ 40) (R2.keep ((Below.refl _ _).alloc (Nat.le_refl _) _)) (by decide) (by decide) (by omega) (Lits.strs _ _ _ 40 (by rfl)) (by omega)).mono ?_
        rintro e w3 ⟨s1, rfl, hz1, R3, g3⟩
        have G3 := grown_trans G2 (grown_trans (grown_below ((Below.refl _ _).alloc (Nat.le_refl _) _) (some r)) g3)
        go_wp2
        go_ret
        exact ⟨_, _, rfl, by rw [ByteArray.size_append]; omega, R3, by omega, G3⟩
      · have t0 : (k == 0) = false := by simpa using h0
        have HP := Lib.hid (pick_c w2 B r 24 (q + 1) R2 (by omega) (by omega) (by omega))
        go_wp2_with fail
        refine HP.out.mono ?_
        rintro e w3 ⟨k2, rfl, k20, k21, R3, g3⟩
        have G3 := grown_trans G2 g3
        have hs3 := G3.size
        clear HP G2 g3 R2
        by_cases h02 : k2 = 0
        · subst h02
          go_wp2_with fail
          refine (of_c _ B r w3.heap.size 3 (q + 1 + 1) (fun s => s.size ≤ 40) (R3.keep ((Below.refl _ _).alloc (Nat.le_refl _) _)) (by decide) (by decide) (by omega) (Lits.strs _ _ _ 40 (by rfl)) (by omega)).mono ?_
          rintro e w4 ⟨s1, rfl, hz1, R4, g4⟩
          have G4 := grown_trans G3 (grown_trans (grown_below ((Below.refl _ _).alloc (Nat.le_refl _) _) (some r)) g4)
          go_wp2
          go_ret
          exact ⟨s1, _, rfl, by omega, R4, by omega, G4⟩
        · have t2 : (k2 == 0) = false := by simpa using h02
          go_wp2
          go_ret
          exact ⟨t, _, rfl, by omega, R3, by omega, G3⟩

set_option maxHeartbeats 800000 in
theorem drawAtOnce_c (w : World) (v : Value) (n : Nat) (hv : RdB w w.heap.size v n) :
    Calls Try.prog 12 #[v] w fun e w' => ∃ u xs s, e = .returned (.tuple #[u, .string s]) ∧ w'.ownsRow w.heap.size 42 2 u xs.length (mcells xs) ∧ (xs.length ≤ 65 ∧ ∀ m ∈ xs, m.1.size ≤ 64 ∧ m.2.size ≤ 64) ∧ s.size ≤ 500 ∧ Below w.heap.size w w' := by
  have HO := Lib.hid (l13Open_c w v n hv)
  go_enter Try.func12, Try.ntmps12
  go_wp2_with fail
  refine HO.out.mono ?_
  rintro e w1 ⟨r, rfl, R1, b1⟩
  have hs1 := b1.size
  have hB := R1.1
  have HS := Lib.hid (l1Some_c w1 _ r 0 R1 (by omega))
  go_wp2_with fail
  refine HS.out.mono ?_
  rintro e w2 ⟨u, xs, p', rfl, ho, hsh, R2, hp, g2⟩
  have HSH := Lib.hid hsh
  have hlt : r < w1.heap.size := by obtain ⟨_, _, v, n, _, _, h⟩ := R1; exact h.lt
  have hs2 := g2.size
  clear HO HS hsh
  have HA := Lib.hid (l2State_c w2 _ r p' R2 (by omega))
  go_wp2_with fail
  refine HA.out.mono ?_
  rintro e w3 ⟨s, _, rfl, hz, R3, _, g3⟩
  have ho3 := own_more (own_grown ho g3 (.inl (fun e => by have := own_block_ge ho r e; omega))) hs1
  have b3 : Below w.heap.size w w3 := (b1.trans (below_grown g2 hs1 (fun g e => by cases e; exact hB))).trans (below_grown g3 (by omega) (fun g e => by cases e; exact hB))
  go_wp2
  go_ret2
  exact ⟨_, xs, s, rfl, ho3, HSH.out, hz, b3⟩
end Go.Proofs.Ytpbaomnhchljbaa
