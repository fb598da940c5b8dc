import Derived.Test.YtnhncbhhlbcieaaGreatDraw2
namespace Go.Proofs.YtnhncbhhlbcieaaGreat
open Go.RowKit Go.PM

set_option maxRecDepth 100000 in
set_option maxHeartbeats 1600000 in
theorem l1Some_c (w : World) (B r : Nat) (p : Int) (hr : Rdr w 77 B r p) (p1 : p ≤ 1000000) :
    Calls Tryz.prog 46 #[.pointer (some ⟨r, 0, none⟩)] w fun e w' => ∃ v xs p', e = .returned v ∧ w'.ownsRow w.heap.size 56 2 v xs.length (mcells xs) ∧ (xs.length ≤ 65 ∧ ∀ m ∈ xs, m.1.size ≤ 64 ∧ m.2.size ≤ 64) ∧ Rdr w' 77 B r p' ∧ p' ≤ p + 67 ∧ w.grownBy w' (some r) := by
  have hlt : r < w.heap.size := by obtain ⟨_, _, v, n, _, _, h⟩ := hr; exact h.lt
  have HD := Lib.hid (l1Draw_c w B r p hr (by omega))
  go_enter Tryz.func46, Tryz.ntmps46
  go_wp2_with fail
  refine HD.out.mono ?_
  rintro e w1 ⟨v, xs, p', rfl, ho, ⟨hl, hz⟩, R1, hp', g1⟩
  have HZ := Lib.hid hz
  have hs1 := g1.size
  clear HD hz
  have HP := Lib.hid (pick_c w1 B r 24 p' R1 (by omega) (by omega) (by omega))
  go_wp2_with fail
  refine HP.out.mono ?_
  rintro e w2 ⟨k, rfl, k0, k1, R2, g2⟩
  have ho2 := own_grown ho g2 (.inl (fun e => by have := own_block_ge ho r e; omega))
  have G2 := grown_trans g1 g2
  have hs2 := G2.size
  clear HP ho g1 g2 R1
  by_cases h0 : k = 0
  · subst h0
    go_wp2_with fail
    refine (of_c _ B r w2.heap.size 5 (p' + 1) (fun s => s.size ≤ 40) (R2.keep ((Below.refl _ _).alloc (Nat.le_refl _) _)) (by decide) (by decide) (by omega) (Lits.strs _ _ _ 40 (by rfl)) (by omega)).mono ?_
    rintro e w3 ⟨s1, rfl, hz1, R3, g3⟩
    have ho3 := own_grown (own_keep ho2 ((Below.refl _ _).alloc (Nat.le_refl _) _)) g3 (.inl (fun e => by have := own_block_ge ho2 r e; omega))
    have G3 := grown_trans G2 (grown_trans (grown_below ((Below.refl _ _).alloc (Nat.le_refl _) _) (some r)) g3)
    have hs3 := G3.size
    clear ho2 G2 R2 g3
    go_wp2_with fail
    refine (of_c _ B r w3.heap.size 5 (p' + 1 + 1) (fun s => s.size ≤ 40) (R3.keep ((Below.refl _ _).alloc (Nat.le_refl _) _)) (by decide) (by decide) (by omega) (Lits.strs _ _ _ 40 (by rfl)) (by omega)).mono ?_
    rintro e w4 ⟨s2, rfl, hz2, R4, g4⟩
    have ho4 := own_grown (own_keep ho3 ((Below.refl _ _).alloc (Nat.le_refl _) _)) g4 (.inl (fun e => by have := own_block_ge ho3 r e; omega))
    have G4 := grown_trans G3 (grown_trans (grown_below ((Below.refl _ _).alloc (Nat.le_refl _) _) (some r)) g4)
    have hs4 := G4.size
    clear ho3 G3 R3 g4
    have HXA : Hid (∀ m ∈ xs ++ [(s1, s2)], m.1.size ≤ 64 ∧ m.2.size ≤ 64) := fun m hm => by
      rcases List.mem_append.1 hm with h | h
      · exact HZ.out m h
      · have e : m = (s1, s2) := by simpa using h
        rw [e]
        exact ⟨by show s1.size ≤ 64; omega, by show s2.size ≤ 64; omega⟩
    have hnw := two_new w4 (.string s1) (.string s2) 56
    go_wp2_with (at_builtin; refine held ?_)
    unfold Held
    refine app_mv rfl (.tmp 9) (.tmp 17) rfl w.heap.size v xs (s1, s2) ⟨w4.heap.size, 0, none⟩ 1 (by rfl) (by rfl) (own_keep ho4 ((Below.refl _ _).alloc (Nat.le_refl _) _)) hnw (by omega) (by simp; omega) ?_
    intro v' w6 hown6 hgrow6
    have R6 := (R4.keep ((Below.refl _ _).alloc (Nat.le_refl _) (.cells #[.string s1, .string s2] 56))).grow hgrow6 (fun g e => by have := own_block_ge ho4 g e; omega)
    have G6 := grown_over (grown_trans G4 (grown_below ((Below.refl _ _).alloc (Nat.le_refl _) (.cells #[.string s1, .string s2] 56)) (some r))) hgrow6 (fun g e => own_block_ge ho4 g e)
    go_wp2
    go_ret
    exact ⟨_, xs ++ [(s1, s2)], _, rfl, hown6, ⟨by simp; omega, HXA.out⟩, R6, by omega, G6⟩
  · have t0 : (k == 0) = false := by simpa using h0
    go_wp2
    go_ret
    exact ⟨_, xs, _, rfl, ho2, ⟨by omega, HZ.out⟩, R2, by omega, G2⟩
end Go.Proofs.YtnhncbhhlbcieaaGreat
