import Derived.Test.YtnhncbhhlbcieaaGreatDraw1
namespace Go.PM
open Go.RowKit
def strOk1 (n : Nat) : Value → Bool
  | .string s => decide (1 ≤ s.size) && decide (s.size ≤ n)
  | _ => false
theorem Lits.strs1 (w : World) (t : TypeId) (cs : Array Value) (n : Nat) (h : cs.toList.all (strOk1 n) = true) : Lits (w.alloc (.cells cs t)) w.heap.size cs.size (fun u => ∃ s, u = .string s ∧ 1 ≤ s.size ∧ s.size ≤ n) :=
  Lits.new w t cs _ fun u hu => by
    have h2 := List.all_eq_true.1 h u hu
    unfold strOk1 at h2
    split at h2
    · rw [Bool.and_eq_true, decide_eq_true_eq, decide_eq_true_eq] at h2
      exact ⟨_, rfl, h2⟩
    · cases h2
theorem grown_over {a b c : World} {row row' : Option Nat} (h : a.grownBy b row) (k : b.grownBy c row') (hn : ∀ g, row' = some g → a.heap.size ≤ g) : a.grownBy c row :=
  ⟨k.os.trans h.os, k.tape.trans h.tape, k.output.trans h.output, Nat.le_trans h.size k.size, fun i hi hne => (k.block i (Nat.lt_of_lt_of_le hi h.size) (fun e => by have := hn i e.symm; omega)).trans (h.block i hi hne)⟩
theorem Rdr.grow {w w' : World} {t : TypeId} {B r : Nat} {p : Int} {row : Option Nat} (h : Rdr w t B r p) (hg : w.grownBy w' row) (hne : ∀ g, row = some g → r < g) : Rdr w' t B r p := by
  obtain ⟨h1, h0, v, n, hn, h2, h3⟩ := h
  exact ⟨h1, h0, v, n, hn, h2.keep hg (fun g e => by have := hne g e; omega), h3.grown hg (fun e => by have := hne r e.symm; omega)⟩
end Go.PM
namespace Go.Proofs.YtnhncbhhlbcieaaGreat
open Go.RowKit Go.PM
open Go.Lib (indexByte)

set_option maxRecDepth 100000 in
set_option maxHeartbeats 1600000 in
theorem l1Draw_c (w : World) (B r : Nat) (p : Int) (hr : Rdr w 77 B r p) (p1 : p ≤ 1000000000) :
    Calls Tryz.prog 65 #[.pointer (some ⟨r, 0, none⟩)] w fun e w' => ∃ v xs p', e = .returned v ∧ w'.ownsRow w.heap.size 56 2 v xs.length (mcells xs) ∧ shortM xs ∧ Rdr w' 77 B r p' ∧ p' ≤ p + 64 ∧ w.grownBy w' (some r) := by
  have hlt : r < w.heap.size := by obtain ⟨_, _, v, n, _, _, h⟩ := hr; exact h.lt
  have HP := Lib.hid (pick_c w B r 3 p hr (by omega) (by omega) (by omega))
  go_enter Tryz.func65, Tryz.ntmps65
  go_wp2_with fail
  refine HP.out.mono ?_
  rintro e w1 ⟨k, rfl, k0, k1, R1, g1⟩
  have hs1 := g1.size
  by_cases h0 : k = 0
  · subst h0
    have HP2 := Lib.hid (pick_c w1 B r 13 (p + 1) R1 (by omega) (by omega) (by omega))
    go_wp2_with fail
    refine HP2.out.mono ?_
    rintro e w2 ⟨k2, rfl, k20, k21, R2, g2⟩
    obtain ⟨K, rfl⟩ := Int.eq_ofNat_of_zero_le k20
    have hs2 := g2.size
    go_wp2_with fail
    refine (l1Known_c w2 K (by omega)).mono ?_
    rintro e w3 ⟨v, xs, rfl, ho, hsh, hb⟩
    go_wp2
    go_ret
    exact ⟨_, xs, _, rfl, own_more ho (by omega), hsh, R2.keep hb, by omega, grown_trans (grown_trans g1 g2) (grown_below hb _)⟩
  · have t0 : (k == 0) = false := by simpa using h0
    go_wp2_with fail
    have E0 := World.ownsRow_lit (e := 56) (base := w.heap.size) (size := 2) w1 #[] 0 hs1 (Nat.zero_le _) rfl
    have L5 := Lits.strs1 (w1.alloc (.cells #[] 56)) 9 #[.string ⟨#[97, 98, 99, 100]⟩, .string ⟨#[97, 98, 99]⟩, .string ⟨#[97, 98, 65, 66]⟩, .string ⟨#[97, 98, 99, 100, 101, 102, 65, 66, 67]⟩, .string ⟨#[97, 98, 99, 100, 49]⟩] 40 (by rfl)
    rw [World.size_alloc] at L5
    refine (of_c _ B r (w1.heap.size + 1) 5 (p + 1) (fun s => 1 ≤ s.size ∧ s.size ≤ 40) ((R1.keep ((Below.refl _ _).alloc (Nat.le_refl _) _)).keep ((Below.refl _ _).alloc (Nat.le_refl _) _)) (by decide) (by decide) (by omega) L5 (by omega)).mono ?_
    clear L5
    rintro e w2 ⟨from_, rfl, ⟨hf1, hf2⟩, R2, g2⟩
    have E1 := own_grown (own_keep E0 ((Below.refl _ _).alloc (Nat.le_refl _) (.cells #[.string ⟨#[97, 98, 99, 100]⟩, .string ⟨#[97, 98, 99]⟩, .string ⟨#[97, 98, 65, 66]⟩, .string ⟨#[97, 98, 99, 100, 101, 102, 65, 66, 67]⟩, .string ⟨#[97, 98, 99, 100, 49]⟩] 9))) g2 (.inl (fun e => by have := own_block_ge E0 r e; omega))
    have G2 := grown_trans g1 (grown_trans (grown_below (((Below.refl _ _).alloc (Nat.le_refl _) (.cells #[] 56)).alloc (by simp) (.cells #[.string ⟨#[97, 98, 99, 100]⟩, .string ⟨#[97, 98, 99]⟩, .string ⟨#[97, 98, 65, 66]⟩, .string ⟨#[97, 98, 99, 100, 101, 102, 65, 66, 67]⟩, .string ⟨#[97, 98, 99, 100, 49]⟩] 9)) (some r)) g2)
    have hs2 := G2.size
    clear E0 g1 g2 R1 HP
    go_wp2_with fail
    refine (num_c _ B r w2.heap.size 6 (p + 1 + 1) (fun x => 0 ≤ x ∧ x ≤ 5) (R2.keep ((Below.refl _ _).alloc (Nat.le_refl _) _)) (by decide) (by decide) (by omega) (Lits.ints w2 3 #[.int .i64 3, .int .i64 4, .int .i64 2, .int .i64 5, .int .i64 1, .int .i64 0] 5 (by rfl)) (by omega)).mono ?_
    rintro e w3 ⟨x, rfl, ⟨hx1, hx2⟩, R3, g3⟩
    obtain ⟨X, rfl⟩ := Int.eq_ofNat_of_zero_le hx1
    have E3 := own_grown (own_keep E1 ((Below.refl _ _).alloc (Nat.le_refl _) _)) g3 (.inl (fun e => by have := own_block_ge E1 r e; omega))
    have G3 := grown_trans G2 (grown_trans (grown_below ((Below.refl _ _).alloc (Nat.le_refl _) _) (some r)) g3)
    have hs3 := G3.size
    clear E1 G2 R2 g3
    go_wp2
    go_loopw [3, 4, 6, 7, 8, 22] (fun o s _ _ _ i wr => ∃ (j : Nat) (xs : List Mv) (t : ByteArray) (q : Int), j ≤ X ∧ i = .int .i64 j ∧ s = .string t ∧ t.size ≤ 64 * j ∧ xs.length ≤ j ∧ Hid (∀ m ∈ xs, m.1.size ≤ 64 ∧ m.2.size ≤ 64) ∧ wr.ownsRow w.heap.size 56 2 o xs.length (mcells xs) ∧ Rdr wr 77 B r q ∧ q ≤ p + 3 + 2 * (j : Int) ∧ w.grownBy wr (some r)) (fun _ _ _ _ _ i _ => X - (intOf i).toNat)
    case atStart => exact ⟨0, [], ⟨#[]⟩, _, by omega, rfl, rfl, Nat.zero_le _, Nat.zero_le _, (fun m hm => by cases hm), E3, R3, by omega, G3⟩
    case round =>
      obtain ⟨j, xs, t, q, hj, rfl, rfl, ht, hxl, hxs, ho, R, hq, G⟩ := hrel
      have hsr := G.size
      by_cases hlt2 : j < X
      · have i1 : (j : Int) < (X : Int) := by omega
        have HP4 := Lib.hid (pick_c wr B r from_.size q R (by omega) (by omega) (by omega))
        go_wp2_with fail
        refine HP4.out.mono ?_
        rintro e w4 ⟨k4, rfl, k40, k41, R4, g4⟩
        obtain ⟨K, rfl⟩ := Int.eq_ofNat_of_zero_le k40
        have ho4 := own_grown ho g4 (.inl (fun e => by have := own_block_ge ho r e; omega))
        have G4 := grown_trans G g4
        have hs4 := G4.size
        clear ho g4 G R HP4
        obtain ⟨c, hcc⟩ := one_of_size (s := from_.extract K (K + 1)) (by rw [ByteArray.size_extract]; omega)
        have HP5 := Lib.hid (pick_c w4 B r from_.size (q + 1) R4 (by omega) (by omega) (by omega))
        go_wp2_with fail
        refine HP5.out.mono ?_
        rintro e w5 ⟨k5, rfl, k50, k51, R5, g5⟩
        obtain ⟨J, rfl⟩ := Int.eq_ofNat_of_zero_le k50
        have ho5 := own_grown ho4 g5 (.inl (fun e => by have := own_block_ge ho4 r e; omega))
        have G5 := grown_trans G4 g5
        have hs5 := G5.size
        clear ho4 g5 G4 R4 HP5
        have hxi : (from_.extract J (J + 1)).size ≤ 64 := by rw [ByteArray.size_extract]; omega
        have HXA : Hid (∀ m ∈ xs ++ [(⟨#[c]⟩, from_.extract J (J + 1))], m.1.size ≤ 64 ∧ m.2.size ≤ 64) := fun m hm => by
          rcases List.mem_append.1 hm with h | h
          · exact hxs.out m h
          · have e : m = (⟨#[c]⟩, from_.extract J (J + 1)) := by simpa using h
            rw [e]
            exact ⟨by show 1 ≤ 64; omega, hxi⟩
        generalize hx2 : from_.extract J (J + 1) = x2 at *
        have hc1 : (ByteArray.mk #[c]).size = 1 := rfl
        rcases Bool.eq_false_or_eq_true (isP ⟨#[c]⟩) with hp | hp
        · by_cases hfi : indexByte t.data.toList c < 0
          · have t1 : decide (indexByte t.data.toList c < 0) = true := decide_eq_true hfi
            have hnw := two_new w5 (.string ⟨#[c]⟩) (.string x2) 56
            go_wp2_with (first | (go_at_call 47; refine (l1Place_c _ _).mono ?_; rintro e w' ⟨rfl, rfl⟩; rw [hp]) | (go_at_call 51; refine (l13Find_c t c _ (by omega)).mono ?_; rintro e w' ⟨rfl, rfl⟩) | (at_builtin; refine held ?_))
            unfold Held
            refine app_mv rfl (.tmp 46) (.tmp 54) rfl w.heap.size u3 xs (⟨#[c]⟩, x2) ⟨w5.heap.size, 0, none⟩ 1 (by rfl) (by rfl) (own_keep ho5 ((Below.refl _ _).alloc (Nat.le_refl _) _)) hnw (by omega) (by simp; omega) ?_
            intro v' w6 hown6 hgrow6
            have R6 := (R5.keep ((Below.refl _ _).alloc (Nat.le_refl _) (.cells #[.string ⟨#[c]⟩, .string x2] 56))).grow hgrow6 (fun g e => by have := own_block_ge ho5 g e; omega)
            have G6 := grown_over (grown_trans G5 (grown_below ((Below.refl _ _).alloc (Nat.le_refl _) (.cells #[.string ⟨#[c]⟩, .string x2] 56)) (some r))) hgrow6 (fun g e => own_block_ge ho5 g e)
            go_wp2
            go_roundw
            case rel => exact ⟨j + 1, xs ++ [(⟨#[c]⟩, x2)], t ++ ⟨#[c]⟩, _, by omega, by go_num, rfl, by rw [ByteArray.size_append]; omega, by simp; omega, HXA, hown6, R6, by omega, G6⟩
            case measure => simp [intOf] <;> omega
          · have t1 : decide (indexByte t.data.toList c < 0) = false := decide_eq_false hfi
            go_wp2_with (first | (go_at_call 47; refine (l1Place_c _ _).mono ?_; rintro e w' ⟨rfl, rfl⟩; rw [hp]) | (go_at_call 51; refine (l13Find_c t c _ (by omega)).mono ?_; rintro e w' ⟨rfl, rfl⟩))
            go_roundw
            case rel => exact ⟨j + 1, xs, t, _, by omega, by go_num, rfl, by omega, by omega, hxs, ho5, R5, by omega, G5⟩
            case measure => simp [intOf] <;> omega
        · have t1 : True := trivial
          go_wp2_with (first | (go_at_call 47; refine (l1Place_c _ _).mono ?_; rintro e w' ⟨rfl, rfl⟩; rw [hp]) | (go_at_call 51; refine (l13Find_c t c _ (by omega)).mono ?_; rintro e w' ⟨rfl, rfl⟩))
          go_roundw
          case rel => exact ⟨j + 1, xs, t, _, by omega, by go_num, rfl, by omega, by omega, hxs, ho5, R5, by omega, G5⟩
          case measure => simp [intOf] <;> omega
      · go_wp2
        go_ret
        exact ⟨_, xs, q, rfl, ho, ⟨by omega, hxs.out⟩, R, by omega, G⟩
end Go.Proofs.YtnhncbhhlbcieaaGreat
