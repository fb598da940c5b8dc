import Derived.Test.YtmifmfljiaoeaabDrawV
import Derived.Test.YtmifmfljiaoeaabDraw3
import Derived.Test.YtmifmfljiaoeaabTextP
namespace Go.PM
open Go.RowKit
theorem RdB.now {w w' : World} {n : Nat} {v : Value} (h : RdB w w.heap.size v n) (hb : Below w.heap.size w w') : RdB w' w'.heap.size v n := by
  obtain ⟨A, cap, e, h1, h2, h3⟩ := h.keep (grown_below hb none) (fun r e => by cases e)
  refine ⟨A, cap, e, h1, h2, fun k hk => ?_⟩
  obtain ⟨b, off, c, e1, _, hl, hc⟩ := h3 k hk
  exact ⟨b, off, c, e1, hl, hl, hc⟩
end Go.PM
namespace Go.Proofs.Ytmifmfljiaoeaab
open Go.RowKit Go.PM

set_option maxHeartbeats 800000 in
theorem drawFormatMoves_c (w : World) (v : Value) (n : Nat) (hv : RdB w w.heap.size v n) :
    Calls Try.prog 9 #[v] w fun e w' => ∃ u xs, e = .returned u ∧ w'.ownsRow w.heap.size 38 2 u xs.length (mcells xs) ∧ (xs.length ≤ 65 ∧ ∀ m ∈ xs, m.1.size ≤ 64 ∧ m.2.size ≤ 64) ∧ Below w.heap.size w w' := by
  have HO := Lib.hid (l13Open_c w v n hv)
  go_enter Try.func9, Try.ntmps9
  go_wp2_with fail
  refine HO.out.mono ?_
  rintro e w1 ⟨r, rfl, R1, b1⟩
  have hs1 := b1.size
  have hB := R1.1
  have hlt : r < w1.heap.size := by obtain ⟨_, _, v, n, _, _, h⟩ := R1; exact h.lt
  have HS := Lib.hid (l1Some_c w1 _ r 0 R1 (by omega))
  go_wp2_with fail
  refine HS.out.mono ?_
  rintro e w2 ⟨u, xs, p', rfl, ho, hsh, R2, hp, g2⟩
  have HSH := Lib.hid hsh
  have ho2 := own_more ho hs1
  have b2 : Below w.heap.size w w2 := b1.trans (below_grown g2 hs1 (fun g e => by cases e; exact hB))
  clear HO HS hsh
  go_wp2
  go_ret
  exact ⟨_, xs, rfl, ho2, HSH.out, b2⟩

set_option maxRecDepth 100000 in
set_option maxHeartbeats 1600000 in
theorem drawParseMoves_c (w : World) (v : Value) (n : Nat) (hv : RdB w w.heap.size v n) :
    Calls Try.prog 16 #[v] w fun e w' => ∃ t, e = .returned (.string t) ∧ t.size ≤ 50000 ∧ Below w.heap.size w w' := by
  have HO := Lib.hid (l13Open_c w v n hv)
  go_enter Try.func16, Try.ntmps16
  go_wp2_with fail
  refine HO.out.mono ?_
  rintro e w1 ⟨r, rfl, R1, b1⟩
  have hs1 := b1.size
  have hB := R1.1
  have hlt : r < w1.heap.size := by obtain ⟨_, _, v, n, _, _, h⟩ := R1; exact h.lt
  have HS := Lib.hid (l1Draw_v w1 _ r 0 R1 (by omega))
  go_wp2_with fail
  refine HS.out.mono ?_
  rintro e w2 ⟨u, xs, p', rfl, ho, hMV, R2, hp, g2⟩
  have hs2 := g2.size
  have hk9 := MV_len hMV
  have R := Rd.of_own ho
  have HF := Lib.hid (spFormatMoves_c xs u w2 R (fun m hm => by have := mok_size (hMV.1 m hm); omega) (by omega))
  have hpos := fmtB_pos hMV
  have hsz := fmtB_size (xs := xs) (by omega) (fun m hm => by have := mok_size (hMV.1 m hm); omega)
  clear HO HS ho R hMV
  generalize fmtB xs = s at *
  go_wp2_with fail
  refine HF.out.mono ?_
  rintro e w3 ⟨rfl, b3⟩
  have R3 := R2.keep b3
  have B3 : Below w.heap.size w w3 := (b1.trans (below_grown g2 hs1 (fun g e => by cases e; exact hB))).trans (b3.mono (by omega))
  have hs3 := B3.size
  clear HF b3 R2 g2 b1 R1
  have HP := Lib.hid (pick_c w3 _ r 2 p' R3 (by omega) (by omega) (by omega))
  go_wp2_with fail
  refine HP.out.mono ?_
  rintro e w4 ⟨k, rfl, k0, k1, R4, g4⟩
  have B4 : Below w.heap.size w w4 := B3.trans (below_grown g4 hs3 (fun g e => by cases e; exact hB))
  have hs4 := B4.size
  clear HP g4 B3 R3
  by_cases h0 : k = 0
  · subst h0
    go_wp2
    go_ret
    exact ⟨s, rfl, by omega, B4⟩
  · have t0 : (k == 0) = false := by simpa using h0
    have HP := Lib.hid (pick_c w4 _ r s.size (p' + 1) R4 (by omega) (by omega) (by omega))
    go_wp2_with fail
    refine HP.out.mono ?_
    rintro e w5 ⟨k5, rfl, k50, k51, R5, g5⟩
    obtain ⟨K, rfl⟩ := Int.eq_ofNat_of_zero_le k50
    have hl5 : r < w5.heap.size := by obtain ⟨_, _, v, n, _, _, h⟩ := R5; exact h.lt
    have hd5 : w5.drew.heap.size = w5.heap.size := rfl
    have B5 : Below w.heap.size w w5 := B4.trans (below_grown g5 hs4 (fun g e => by cases e; exact hB))
    have hs5 := B5.size
    have hK : K < s.size := by omega
    clear HP g5 B4 R4 h0 t0
    go_wp2
    have i1 : (K : Int) ≤ (s.size : Int) := by omega
    have i0 : (0 : Int) ≤ (K : Int) := by omega
    refine wp_region_held_drew (S := fun _ => True) (by kernel_rfl) trivial (fun hHeld => ?_)
    refine wpAnyH_take (i := 0) (oi := _) (v := ?_) rfl (by kernel_rfl) (by kernel_rfl) (by kernel_rfl) (fun _ _ _ h => h) (Or.inl ⟨by rfl, by intro w0 _; go_simp; rfl⟩) trivial ?_
    simp only [Act.put, List.getElem_toArray, List.getElem_cons_succ, List.getElem_cons_zero, List.setIfInBounds_toArray, List.set_cons_succ, List.set_cons_zero]
    refine wpAnyH_take (i := 1) (oi := _) (v := ?_) rfl (by kernel_rfl) (by kernel_rfl) (by kernel_rfl) (fun _ _ _ h => h) (Or.inl ⟨by rfl, by intro w0 _; go_simp; rfl⟩) trivial ?_
    simp only [Act.put, List.getElem_toArray, List.getElem_cons_succ, List.getElem_cons_zero, List.setIfInBounds_toArray, List.set_cons_succ, List.set_cons_zero]
    refine wpAnyH_take (i := 2) (oi := _) (v := ?_) rfl (by kernel_rfl) (by kernel_rfl) (by kernel_rfl) (fun _ _ _ h => h) (Or.inl ⟨by rfl, by intro w0 _; go_simp; rfl⟩) trivial ?_
    simp only [Act.put, List.getElem_toArray, List.getElem_cons_succ, List.getElem_cons_zero, List.setIfInBounds_toArray, List.set_cons_succ, List.set_cons_zero]
    refine wpAnyH_take (i := 3) (oi := _) (v := ?_) rfl (by kernel_rfl) (by kernel_rfl) (by kernel_rfl) (fun _ _ _ h => h) (Or.inl ⟨by rfl, by intro w0 _; go_simp; rfl⟩) trivial ?_
    simp only [Act.put, List.getElem_toArray, List.getElem_cons_succ, List.getElem_cons_zero, List.setIfInBounds_toArray, List.set_cons_succ, List.set_cons_zero]
    refine wpAnyH_take (i := 7) (oi := _) (v := ?_) rfl (by kernel_rfl) (by kernel_rfl) (by kernel_rfl) (fun _ _ _ h => h) (Or.inl ⟨by rfl, by intro w0 _; go_simp; rfl⟩) trivial ?_
    simp only [Act.put, List.getElem_toArray, List.getElem_cons_succ, List.getElem_cons_zero, List.setIfInBounds_toArray, List.set_cons_succ, List.set_cons_zero]
    refine wpAnyH_take (i := 8) (oi := _) (v := ?_) rfl (by kernel_rfl) (by kernel_rfl) (by kernel_rfl) (fun _ _ _ h => h) (Or.inl ⟨by rfl, by intro w0 _; go_simp; rfl⟩) trivial ?_
    simp only [Act.put, List.getElem_toArray, List.getElem_cons_succ, List.getElem_cons_zero, List.setIfInBounds_toArray, List.set_cons_succ, List.set_cons_zero]
    refine wpAnyH_take (i := 9) (oi := _) (v := ?_) rfl (by kernel_rfl) (by kernel_rfl) (by kernel_rfl) (fun _ _ _ h => h) (Or.inl ⟨by rfl, by intro w0 _; go_simp; rfl⟩) trivial ?_
    simp only [Act.put, List.getElem_toArray, List.getElem_cons_succ, List.getElem_cons_zero, List.setIfInBounds_toArray, List.set_cons_succ, List.set_cons_zero]
    refine wpAnyH_ready (rs := [4]) (by kernel_rfl) (by simp) ?_
    refine AllReadyH.cons rfl (fun K1 hK1 => ?_) AllReadyH.nil
    go_simp
    refine hK1.out _ _ trivial (fun hHeld2 => ?_)
    clear hK1 K1 hHeld
    try simp only [Act.put, List.getElem_toArray, List.getElem_cons_succ, List.getElem_cons_zero, List.setIfInBounds_toArray, List.set_cons_succ, List.set_cons_zero]
    refine wpAnyH_ready (rs := [5]) (by kernel_rfl) (by simp) ?_
    refine AllReadyH.cons rfl (fun K1 hK1 => ?_) AllReadyH.nil
    go_simp
    go_at_call 67
    refine (of_c _ _ r w5.drew.heap.size 6 (p' + 1 + 1) (fun s => s.size ≤ 40) (Rdr.keep (show Rdr w5.drew 116 w.heap.size r _ from R5) ((Below.refl _ _).alloc (Nat.le_refl _) _)) (by decide) (by decide) (by omega) (Lits.strs _ _ _ 40 (by rfl)) (by omega)).mono ?_
    rintro e w6 ⟨s1, rfl, hz1, R6, g6⟩
    have g6' := grown_trans (grown_below ((Below.refl w5.heap.size w5).drew.alloc (Nat.le_refl _) (.cells #[.string ⟨#[]⟩, .string ⟨#[44]⟩, .string ⟨#[61]⟩, .string ⟨#[97]⟩, .string ⟨#[116]⟩, .string ⟨#[45]⟩] 9)) (some r)) g6
    have B6 : Below w.heap.size w w6 := B5.trans (below_grown g6' hs5 (fun g e => by cases e; exact hB))
    have hs6 := B6.size
    refine hK1.out _ _ trivial (fun hHeld3 => ?_)
    clear hK1 K1 hHeld2 g6 g6' R5 B5
    try simp only [Act.put, List.getElem_toArray, List.getElem_cons_succ, List.getElem_cons_zero, List.setIfInBounds_toArray, List.set_cons_succ, List.set_cons_zero]
    refine wpAnyH_take (i := 6) (oi := _) (v := ?_) rfl (by kernel_rfl) (by kernel_rfl) (by kernel_rfl) (fun _ _ _ h => h) (Or.inl ⟨by rfl, by intro w0 _; go_simp; rw [if_neg (by omega)]⟩) trivial ?_
    simp only [Act.put, List.getElem_toArray, List.getElem_cons_succ, List.getElem_cons_zero, List.setIfInBounds_toArray, List.set_cons_succ, List.set_cons_zero]
    refine wpAnyH_ready (rs := [10]) (by kernel_rfl) (by simp) ?_
    refine AllReadyH.cons rfl (fun K1 hK1 => ?_) AllReadyH.nil
    go_simp
    go_at_call 66
    refine (pick_c w6 _ r 2 _ R6 (by omega) (by omega) (by omega)).mono ?_
    rintro e w7 ⟨k7, rfl, k70, k71, R7, g7⟩
    obtain ⟨J, rfl⟩ := Int.eq_ofNat_of_zero_le k70
    have B7 : Below w.heap.size w w7 := B6.trans (below_grown g7 hs6 (fun g e => by cases e; exact hB))
    refine hK1.out _ _ trivial (fun hHeld4 => ?_)
    clear hK1 K1 hHeld3 g7 R6 B6
    try simp only [Act.put, List.getElem_toArray, List.getElem_cons_succ, List.getElem_cons_zero, List.setIfInBounds_toArray, List.set_cons_succ, List.set_cons_zero]
    have i2 : (K : Int) + (J : Int) ≤ (s.size : Int) := by omega
    have i3 : (0 : Int) ≤ (K : Int) + (J : Int) := by omega
    have hwr : IntKind.i64.wrap ((K : Int) + (J : Int)) = (K : Int) + (J : Int) := by rw [IntKind.wrap_i64]; omega
    refine wpAnyH_take (i := 11) (oi := _) (v := .int .i64 ((K : Int) + (J : Int))) rfl (by kernel_rfl) (by kernel_rfl) (by kernel_rfl) (fun _ _ _ h => h) (Or.inl ⟨by rfl, by intro w0 _; go_simp⟩) trivial ?_
    simp only [Act.put, List.getElem_toArray, List.getElem_cons_succ, List.getElem_cons_zero, List.setIfInBounds_toArray, List.set_cons_succ, List.set_cons_zero]
    refine wpAnyH_take (i := 12) (oi := _) (v := ?_) rfl (by kernel_rfl) (by kernel_rfl) (by kernel_rfl) (fun _ _ _ h => h) (Or.inl ⟨by rfl, by intro w0 _; go_simp; rfl⟩) trivial ?_
    simp only [Act.put, List.getElem_toArray, List.getElem_cons_succ, List.getElem_cons_zero, List.setIfInBounds_toArray, List.set_cons_succ, List.set_cons_zero]
    refine wpAnyH_take (i := 13) (oi := _) (v := ?_) rfl (by kernel_rfl) (by kernel_rfl) (by kernel_rfl) (fun _ _ _ h => h) (Or.inl ⟨by rfl, by intro w0 _; go_simp; rw [if_neg (by omega)]⟩) trivial ?_
    simp only [Act.put, List.getElem_toArray, List.getElem_cons_succ, List.getElem_cons_zero, List.setIfInBounds_toArray, List.set_cons_succ, List.set_cons_zero]
    refine wpAnyH_take (i := 14) (oi := _) (v := ?_) rfl (by kernel_rfl) (by kernel_rfl) (by kernel_rfl) (fun _ _ _ h => h) (Or.inl ⟨by rfl, by intro w0 _; go_simp; rfl⟩) trivial ?_
    simp only [Act.put, List.getElem_toArray, List.getElem_cons_succ, List.getElem_cons_zero, List.setIfInBounds_toArray, List.set_cons_succ, List.set_cons_zero]
    refine wpAnyH_done (by kernel_rfl) ?_ _
    go_wp2
    go_ret
    refine ⟨_, rfl, ?_, B7⟩
    simp only [ByteArray.size_append, ByteArray.size_extract]
    omega
end Go.Proofs.Ytmifmfljiaoeaab
