import Derived.Test.YteadhnpmmpninaaDraw3
import Derived.Test.YteadhnpmmpninaaTurn
namespace Go.Proofs.Yteadhnpmmpninaa
open Go.RowKit Go.PM

set_option maxRecDepth 100000 in
set_option maxHeartbeats 2000000 in
theorem l4Exchange_c (w : World) (B r : Nat) (p : Int) (hr : Rdr w 103 B r p) (p1 : p ≤ 900000) :
    Calls Try.prog 42 #[.pointer (some ⟨r, 0, none⟩)] w fun e w' => ∃ v xs p', e = .returned v ∧ w'.ownsRow w.heap.size 31 2 v xs.length (mcells xs) ∧ (xs.length ≤ 65 ∧ ∀ m ∈ xs, m.1.size ≤ 64 ∧ m.2.size ≤ 64) ∧ Rdr w' 103 B r p' ∧ p' ≤ p + 100 ∧ w.grownBy w' (some r) := by
  have hlt : r < w.heap.size := by obtain ⟨_, _, v, n, _, _, h⟩ := hr; exact h.lt
  have HP := Lib.hid (pick_c w B r 3 p hr (by omega) (by omega) (by omega))
  go_enter Try.func42, Try.ntmps42
  go_wp2_with fail
  refine HP.out.mono ?_
  rintro e w1 ⟨k, rfl, k0, k1, R1, g1⟩
  have hs1 := g1.size
  clear HP
  by_cases h0 : k = 0
  · subst h0
    have HS := Lib.hid (l1Some_c w1 B r (p + 1) R1 (by omega))
    go_wp2_with fail
    refine HS.out.mono ?_
    rintro e w2 ⟨v, xs, p', rfl, ho, hsh, R2, hp', g2⟩
    have HSH := Lib.hid hsh
    have HPP : Hid (p' ≤ p + 100) := by show _ ≤ _; omega
    clear hsh
    go_wp2
    go_ret
    exact ⟨_, xs, p', rfl, own_more ho hs1, HSH.out, R2, HPP.out, grown_trans g1 g2⟩
  · have t0 : (k == 0) = false := by simpa using h0
    go_wp2_with fail
    have L5 := Lits.strs1 w1 9 #[.string ⟨#[97, 98, 99, 100]⟩, .string ⟨#[97, 98, 99]⟩, .string ⟨#[97, 98, 99, 100, 101, 102]⟩, .string ⟨#[97, 66, 99, 65]⟩, .string ⟨#[97, 98, 99, 100, 101, 102, 65, 66, 67]⟩] 40 (by rfl)
    refine (of_c _ B r w1.heap.size 5 (p + 1) (fun s => 1 ≤ s.size ∧ s.size ≤ 40) (R1.keep ((Below.refl _ _).alloc (Nat.le_refl _) _)) (by decide) (by decide) (by omega) L5 (by omega)).mono ?_
    clear L5
    rintro e w2 ⟨from_, rfl, ⟨hf1, hf2⟩, R2, g2⟩
    have G2 := grown_trans g1 (grown_trans (grown_below ((Below.refl _ _).alloc (Nat.le_refl _) (.cells #[.string ⟨#[97, 98, 99, 100]⟩, .string ⟨#[97, 98, 99]⟩, .string ⟨#[97, 98, 99, 100, 101, 102]⟩, .string ⟨#[97, 66, 99, 65]⟩, .string ⟨#[97, 98, 99, 100, 101, 102, 65, 66, 67]⟩] 9)) (some r)) g2)
    have hs2 := G2.size
    clear g1 g2 R1
    go_wp2
    go_loopw [4, 19] (fun o i wr => ∃ (j : Nat) (t : ByteArray) (q : Int), j ≤ from_.size ∧ i = .int .i64 j ∧ o = .string t ∧ t.size = j ∧ Rdr wr 103 B r q ∧ q ≤ p + 2 + (j : Int) ∧ w.grownBy wr (some r)) (fun _ i _ => from_.size - (intOf i).toNat)
    case atStart => exact ⟨0, ⟨#[]⟩, _, by omega, rfl, rfl, rfl, R2, by omega, G2⟩
    case round =>
      obtain ⟨j, t, q, hj, rfl, rfl, ht, R, hq, G⟩ := hrel
      have hsr := G.size
      by_cases hlt2 : j < from_.size
      · have i1 : (j : Int) < (from_.size : Int) := by omega
        have HP4 := Lib.hid (pick_c wr B r ((j : Int) + 1) q R (by omega) (by omega) (by omega))
        go_wp2_with fail
        refine HP4.out.mono ?_
        rintro e w4 ⟨k4, rfl, k40, k41, R4, g4⟩
        obtain ⟨K, rfl⟩ := Int.eq_ofNat_of_zero_le k40
        have G4 := grown_trans G g4
        clear g4 G R HP4
        have q1 : K ≤ t.size := by omega
        have q2 : (K : Int) ≤ (t.size : Int) := by omega
        have z1 : (t.extract 0 K).size = K := by rw [ByteArray.size_extract]; omega
        have z2 : (from_.extract j (j + 1)).size = 1 := by rw [ByteArray.size_extract]; omega
        have z3 : (t.extract K j).size = j - K := by rw [ByteArray.size_extract]; omega
        have z4 : (t.extract 0 K ++ from_.extract j (j + 1)).size = K + 1 := by rw [ByteArray.size_append]; omega
        have ZZ : Hid ((t.extract 0 K ++ from_.extract j (j + 1) ++ t.extract K j).size = j + 1) := by
          show _ = _
          rw [ByteArray.size_append]; omega
        go_wp2
        refine wp_region_quiet (C := fun w' => w' = w4.drew) (by kernel_rfl) (by kernel_rfl) rfl ?_
        simp only
        repeat (go_big_quiet_step (fail))
        refine wpQuiet_nil ?_
        intro w' hw'
        subst hw'
        have Rd4 : Rdr w4.drew 103 B r (q + 1) := R4
        have Gd4 : w.grownBy w4.drew (some r) := ⟨G4.os, G4.tape, G4.output, G4.size, G4.block⟩
        clear R4 G4
        go_wp2
        go_roundw
        case rel => exact ⟨j + 1, t.extract 0 K ++ from_.extract j (j + 1) ++ t.extract K j, q + 1, by omega, by go_num, rfl, ZZ.out, Rd4, by omega, Gd4⟩
        case measure => simp [intOf]; omega
      · have hje : j = from_.size := by omega
        have hE := World.ownsRow_lit (e := 31) (base := w.heap.size) (size := 2) wr #[] 0 hsr (Nat.zero_le _) rfl
        have RE := R.keep ((Below.refl _ _).alloc (Nat.le_refl _) (.cells #[] 31))
        have GE := grown_trans G (grown_below ((Below.refl _ _).alloc (Nat.le_refl _) (.cells #[] 31)) (some r))
        have hto : t.size = from_.size := by omega
        clear R G
        go_wp2
        have HQQ : Hid (q ≤ p + 100) := by show _ ≤ _; omega
        clear ht hj hje hq
        rename World => wo
        go_loopw [7, 43] (fun o i wr => ∃ (j : Nat) (xs : List Mv), j ≤ from_.size ∧ i = .int .i64 j ∧ xs.length = j ∧ Hid (∀ m ∈ xs, m.1.size ≤ 64 ∧ m.2.size ≤ 64) ∧ wr.ownsRow w.heap.size 31 2 o xs.length (mcells xs) ∧ Rdr wr 103 B r q ∧ w.grownBy wr (some r)) (fun _ i _ => from_.size - (intOf i).toNat)
        case atStart => exact ⟨0, [], by omega, rfl, rfl, (fun m hm => by cases hm), hE, RE, GE⟩
        case round =>
          obtain ⟨j, xs, hj, rfl, hxl, hxs, ho, R, G⟩ := hrel
          have hsr2 := G.size
          by_cases hlt2 : j < from_.size
          · have i1 : (j : Int) < (from_.size : Int) := by omega
            have z1 : (from_.extract j (j + 1)).size = 1 := by rw [ByteArray.size_extract]; omega
            have z2 : (t.extract j (j + 1)).size = 1 := by rw [ByteArray.size_extract]; omega
            have HXA : Hid (∀ m ∈ xs ++ [(from_.extract j (j + 1), t.extract j (j + 1))], m.1.size ≤ 64 ∧ m.2.size ≤ 64) := fun m hm => by
              rcases List.mem_append.1 hm with h | h
              · exact hxs.out m h
              · have e : m = (from_.extract j (j + 1), t.extract j (j + 1)) := by simpa using h
                rw [e]
                exact ⟨by show (from_.extract j (j + 1)).size ≤ 64; omega, by show (t.extract j (j + 1)).size ≤ 64; omega⟩
            generalize hx1 : from_.extract j (j + 1) = x1 at *
            generalize hx2 : t.extract j (j + 1) = x2 at *
            have hnw := two_new wr.drew (.string x1) (.string x2) 31
            have hlr : r < wr.heap.size := by have := G.size; omega
            go_wp2
            refine region_late_wide (m := 0) (C := fun w' => w' = wr.drew) (D := fun _ => True) 12 (by kernel_rfl) (by kernel_rfl) _ _ (by rfl) (by rfl) (by rfl) u7 (by intro _ _ _ h; exact h) (yieldsD_move (by rfl) _ (by rfl) u7 (by rfl)) (fun _ _ => trivial) rfl ?_
            simp only [List.take_succ_cons, List.take_zero, List.drop_succ_cons, List.drop_zero, Nat.reduceSub, Nat.reduceAdd]
            simp only [Act.put, List.setIfInBounds_toArray, List.set_cons_succ, List.set_cons_zero]
            repeat (gi_big_quiet_step (fail))
            refine wpQuietIn_nil ?_
            intro w' hw' K hK
            subst hw'
            refine sliceIn_mv (.tmp 57) rfl x1 x2 (by rfl) ?_
            refine hK _ _ trivial ?_
            clear hK K
            simp only [Act.put, List.setIfInBounds_toArray, List.set_cons_succ, List.set_cons_zero]
            have hod : wr.drew.ownsRow w.heap.size 31 2 u7 xs.length (mcells xs) := ho
            have hzd : wr.drew.heap.size = wr.heap.size := rfl
            refine listIn_mv rfl (.tmp 46) (.tmp 58) rfl w.heap.size u7 xs (x1, x2) ⟨wr.drew.heap.size, 0, none⟩ 1 (by rfl) (by rfl) (own_keep hod ((Below.refl _ _).alloc (Nat.le_refl _) _)) hnw (by omega) (by simp; omega) ?_
            intro v' w3 hown3 hgrow3
            have hge := own_block_ge ho
            have Rd3 : Rdr wr.drew 103 B r q := R
            have Gd3 : w.grownBy wr.drew (some r) := ⟨G.os, G.tape, G.output, G.size, G.block⟩
            have R6 := (Rd3.keep ((Below.refl _ _).alloc (Nat.le_refl _) (.cells #[.string x1, .string x2] 31))).grow hgrow3 (fun g e => by have := hge g e; omega)
            have G6 := grown_over (grown_trans Gd3 (grown_below ((Below.refl _ _).alloc (Nat.le_refl _) (.cells #[.string x1, .string x2] 31)) (some r))) hgrow3 hge
            clear ho R G hod Rd3 Gd3 hge hgrow3 hnw hxs
            gi_wp2
            go_wp2
            go_roundw
            case rel => exact ⟨j + 1, xs ++ [(x1, x2)], by omega, by go_num, by simp; omega, HXA, hown3, R6, G6⟩
            case measure => simp [intOf]; omega
          · have hje2 : j = from_.size := by omega
            go_wp2
            go_ret
            exact ⟨_, xs, q, rfl, ho, ⟨by omega, hxs.out⟩, R, HQQ.out, G⟩
end Go.Proofs.Yteadhnpmmpninaa
