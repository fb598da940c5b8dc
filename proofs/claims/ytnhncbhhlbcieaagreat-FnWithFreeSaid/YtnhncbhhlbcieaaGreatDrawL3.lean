import Derived.Test.YtnhncbhhlbcieaaGreatDrawL2
namespace Go.PM
open Go.RowKit
def vlen : Value → Nat
  | .slice _ n _ => n
  | _ => 0
end Go.PM
namespace Go.Proofs.YtnhncbhhlbcieaaGreat
open Go.RowKit Go.PM
attribute [local go_sem] Oper.semAt_some

set_option maxRecDepth 100000 in
set_option maxHeartbeats 1600000 in
theorem l2Some_c (w : World) (B r : Nat) (p : Int) (hr : Rdr w 77 B r p) (p1 : p ≤ 900000) :
    Calls Tryz.prog 52 #[.pointer (some ⟨r, 0, none⟩)] w fun e w' => ∃ v xs p', e = .returned v ∧ w'.ownsRow w.heap.size 58 3 v xs.length (scells xs) ∧ shS 70 xs ∧ Rdr w' 77 B r p' ∧ p' ≤ p + 80 ∧ w.grownBy w' (some r) := by
  have hlt : r < w.heap.size := by obtain ⟨_, _, v, n, _, _, h⟩ := hr; exact h.lt
  have HD := Lib.hid (l2Draw_c w B r p hr (by omega))
  go_enter Tryz.func52, Tryz.ntmps52
  go_wp2_with fail
  refine HD.out.mono ?_
  rintro e w1 ⟨v, xs, p', rfl, ho, hl, hok, R1, hp', g1⟩
  have HZ := Lib.hid (okL_sh hok hl)
  have hs1 := g1.size
  clear HD hok
  have HP := Lib.hid (pick_c w1 B r 30 p' R1 (by omega) (by omega) (by omega))
  go_wp2_with fail
  refine HP.out.mono ?_
  rintro e w2 ⟨k, rfl, k0, k1, R2, g2⟩
  have ho2 := own_grown ho g2 (.inl (fun e => by have := own_block_ge ho r e; omega))
  have G2 := grown_trans g1 g2
  have hs2 := G2.size
  clear HP ho g1 g2 R1
  by_cases h0 : k = 0
  · subst h0
    go_wp2_with fail
    have LN : Lits (w2.alloc (.cells #[.int .i64 0, .int .i64 1, .int .i64 2, .int .i64 (-1)] 3)) w2.heap.size 4 (fun u => ∃ x, u = .int .i64 x ∧ True) := Lits.new w2 3 #[.int .i64 0, .int .i64 1, .int .i64 2, .int .i64 (-1)] _ (fun u hu => by simp at hu; rcases hu with rfl | rfl | rfl | rfl <;> exact ⟨_, rfl, trivial⟩)
    refine (num_c _ B r w2.heap.size 4 (p' + 1) (fun x => True) (R2.keep ((Below.refl _ _).alloc (Nat.le_refl _) _)) (by decide) (by decide) (by omega) LN (by omega)).mono ?_
    clear LN
    rintro e wn ⟨y, rfl, _, Rn, gn⟩
    have hon := own_grown (own_keep ho2 ((Below.refl _ _).alloc (Nat.le_refl _) _)) gn (.inl (fun e => by have := own_block_ge ho2 r e; omega))
    have Gn := grown_trans G2 (grown_trans (grown_below ((Below.refl _ _).alloc (Nat.le_refl _) _) (some r)) gn)
    have hsn := Gn.size
    clear ho2 G2 R2 gn
    go_wp2_with fail
    refine (of_c _ B r wn.heap.size 3 (p' + 1 + 1) (fun s => s.size ≤ 40) (Rn.keep ((Below.refl _ _).alloc (Nat.le_refl _) _)) (by decide) (by decide) (by omega) (Lits.strs _ _ _ 40 (by rfl)) (by omega)).mono ?_
    rintro e w3 ⟨s1, rfl, hz1, R3, g3⟩
    have ho3 := own_grown (own_keep hon ((Below.refl _ _).alloc (Nat.le_refl _) _)) g3 (.inl (fun e => by have := own_block_ge hon r e; omega))
    have G3 := grown_trans Gn (grown_trans (grown_below ((Below.refl _ _).alloc (Nat.le_refl _) _) (some r)) g3)
    have hs3 := G3.size
    clear hon Gn Rn g3
    go_wp2_with fail
    refine (of_c _ B r w3.heap.size 3 (p' + 1 + 1 + 1) (fun s => s.size ≤ 40) (R3.keep ((Below.refl _ _).alloc (Nat.le_refl _) _)) (by decide) (by decide) (by omega) (Lits.strs _ _ _ 40 (by rfl)) (by omega)).mono ?_
    rintro e w4 ⟨s2, rfl, hz2, R4, g4⟩
    have ho4 := own_grown (own_keep ho3 ((Below.refl _ _).alloc (Nat.le_refl _) _)) g4 (.inl (fun e => by have := own_block_ge ho3 r e; omega))
    have G4 := grown_trans G3 (grown_trans (grown_below ((Below.refl _ _).alloc (Nat.le_refl _) _) (some r)) g4)
    have hs4 := G4.size
    clear ho3 G3 R3 g4
    have HXA : Hid (shS 70 (xs ++ [(y, s1, s2)])) := by
      refine ⟨by simp; omega, fun x hx => ?_⟩
      rcases List.mem_append.1 hx with h | h
      · exact HZ.out.2 x h
      · rw [List.mem_singleton] at h
        rw [h]
        exact ⟨by show s1.size ≤ 64; omega, by show s2.size ≤ 64; omega⟩
    have hnw := three_new w4 (.int .i64 y) (.string s1) (.string s2) 58
    go_wp2_with (at_builtin; refine held ?_)
    unfold Held
    refine app_st rfl (.tmp 10) (.tmp 22) rfl w.heap.size v xs (y, s1, s2) ⟨w4.heap.size, 0, none⟩ 1 (by rfl) (by rfl) (own_keep ho4 ((Below.refl _ _).alloc (Nat.le_refl _) _)) hnw (by omega) (by simp; omega) ?_
    intro v' w6 hown6 hgrow6
    have R6 := (R4.keep ((Below.refl _ _).alloc (Nat.le_refl _) (.cells #[.int .i64 y, .string s1, .string s2] 58))).grow hgrow6 (fun g e => by have := own_block_ge ho4 g e; omega)
    have G6 := grown_over (grown_trans G4 (grown_below ((Below.refl _ _).alloc (Nat.le_refl _) (.cells #[.int .i64 y, .string s1, .string s2] 58)) (some r))) hgrow6 (fun g e => own_block_ge ho4 g e)
    go_wp2
    go_ret
    exact ⟨_, xs ++ [(y, s1, s2)], _, rfl, hown6, HXA.out, R6, by omega, G6⟩
  · have t0 : (k == 0) = false := by simpa using h0
    by_cases h1 : k = 1
    · subst h1
      have hz6 := HZ.out
      go_wp2
      go_loopw [3] (fun o wr => ∃ ys : List St, Hid (shS 61 ys) ∧ wr.ownsRow w.heap.size 58 3 o ys.length (scells ys) ∧ Rdr wr 77 B r (p' + 1) ∧ w.grownBy wr (some r)) (fun o _ => 61 - vlen o)
      case atStart => exact ⟨xs, ⟨by have := hz6.1; omega, hz6.2⟩, ho2, R2, G2⟩
      case round =>
        obtain ⟨ys, hys, ho, R, G⟩ := hrel
        have hsr := G.size
        have hy1 := hys.out.1
        obtain ⟨A, cap, eo, hn0, hc0, _⟩ := RdS.open (w := wr) (xs := ys) (Rd.of_own ho)
        subst eo
        clear ho2 R2 G2 hz6
        by_cases hlt2 : ys.length < 61
        · have i1 : (ys.length : Int) < 61 := by omega
          have HYA : Hid (shS 61 (ys ++ [((0 : Int), (⟨#[97]⟩ : ByteArray), (⟨#[98]⟩ : ByteArray))])) := by
            refine ⟨by simp; omega, fun x hx => ?_⟩
            rcases List.mem_append.1 hx with h | h
            · exact hys.out.2 x h
            · rw [List.mem_singleton] at h
              rw [h]; exact ⟨by decide, by decide⟩
          have hnw := three_new wr (.int .i64 0) (.string ⟨#[97]⟩) (.string ⟨#[98]⟩) 58
          go_wp2_with (at_builtin; refine held ?_)
          unfold Held
          refine app_st rfl (.tmp 29) (.tmp 32) rfl w.heap.size (.slice A ys.length cap) ys (0, ⟨#[97]⟩, ⟨#[98]⟩) ⟨wr.heap.size, 0, none⟩ 1 (by rfl) (by rfl) (own_keep ho ((Below.refl _ _).alloc (Nat.le_refl _) _)) hnw (by omega) (by simp; omega) ?_
          intro v' w6 hown6 hgrow6
          have R6 := (R.keep ((Below.refl _ _).alloc (Nat.le_refl _) (.cells #[.int .i64 0, .string ⟨#[97]⟩, .string ⟨#[98]⟩] 58))).grow hgrow6 (fun g e => by have := own_block_ge ho g e; omega)
          have G6 := grown_over (grown_trans G (grown_below ((Below.refl _ _).alloc (Nat.le_refl _) (.cells #[.int .i64 0, .string ⟨#[97]⟩, .string ⟨#[98]⟩] 58)) (some r))) hgrow6 (fun g e => own_block_ge ho g e)
          have hln : (ys ++ [((0 : Int), (⟨#[97]⟩ : ByteArray), (⟨#[98]⟩ : ByteArray))]).length = ys.length + 1 := by simp
          generalize ys ++ [((0 : Int), (⟨#[97]⟩ : ByteArray), (⟨#[98]⟩ : ByteArray))] = ys2 at *
          obtain ⟨A', cap', eo', _⟩ := RdS.open (w := w6) (xs := ys2) (Rd.of_own hown6)
          subst eo'
          have HLE : Hid (61 - vlen (Value.slice A' ys2.length cap') < 61 - vlen (Value.slice A ys.length cap)) := by
            show 61 - ys2.length < 61 - ys.length
            omega
          clear hln
          clear hnw hgrow6 R G ho
          go_wp2
          go_roundw
          case rel => exact ⟨_, HYA.out, hown6, R6, G6⟩
          case measure => exact HLE.out
        · have hy61 : ys.length = 61 := by omega
          have HP2 := Lib.hid (pick_c wr B r 2 (p' + 1) R (by omega) (by omega) (by omega))
          have i1 : ¬ (ys.length : Int) < 61 := by omega
          have i2 : decide ((ys.length : Int) < 61) = false := decide_eq_false i1
          have i3 : decide (ys.length < 61) = false := decide_eq_false hlt2
          have HO61 := Lib.hid ho
          have HY61 := Lib.hid hy61
          have hc61 : 61 ≤ cap := by omega
          clear i1 hlt2 hy1 hn0 hc0 ho hy61
          go_wp2_with fail
          refine HP2.out.mono ?_
          rintro e w7 ⟨k2, rfl, k20, k21, R7, g7⟩
          have G7 := grown_trans G g7
          have ho7 := own_grown HO61.out g7 (.inl (fun e => by have := own_block_ge HO61.out r e; omega))
          have HO7 := Lib.hid ho7
          clear ho7 g7 G R HP2
          have c1 : (0 : Int) ≤ 60 + k2 := by omega
          have c2 : 60 + k2 ≤ (cap : Int) := by omega
          have c3 : IntKind.i64.wrap (60 + k2) = 60 + k2 := IntWalk.i64_in _ ⟨by omega, by omega⟩
          obtain ⟨K2, rfl⟩ := Int.eq_ofNat_of_zero_le k20
          have c4 : ((60 : Int) + (K2 : Int)).toNat = 60 + K2 := by omega
          have c5 : 60 + K2 ≤ cap := by omega
          go_wp2
          go_ret
          have hlt : (ys.take (60 + K2)).length = 60 + K2 := by rw [List.length_take, Nat.min_eq_left (by have := HY61.out; omega)]
          refine ⟨_, ys.take (60 + K2), p' + 1 + 1, rfl, ?_, ⟨by omega, fun x hx => hys.out.2 x (List.mem_of_mem_take hx)⟩, R7, by omega, G7⟩
          rw [hlt]
          exact own_take HO7.out (by have := HY61.out; omega)
    · have t1 : (k == 1) = false := by simpa using h1
      go_wp2
      go_ret
      exact ⟨_, xs, _, rfl, ho2, ⟨by have := HZ.out.1; omega, HZ.out.2⟩, R2, by omega, G2⟩
end Go.Proofs.YtnhncbhhlbcieaaGreat
