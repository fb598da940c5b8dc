/- Proved: for every input of the form's own reach the law FnSame answers true and its arguments read afterwards as before; no further condition. -/
import Derived.Test.YtdhhmphnmllbhaaDrawM
import Derived.Test.YtdhhmphnmllbhaaSameP
import Derived.Test.YtdhhmphnmllbhaaSameB
import Derived.Test.YtdhhmphnmllbhaaSame
import Derived.Test.YtdhhmphnmllbhaaPlaces
import Derived.Test.YtdhhmphnmllbhaaPlacesS
import Derived.Test.YtdhhmphnmllbhaaPmSame
import Derived.Test.YtdhhmphnmllbhaaBytes
import Derived.Test.YtdhhmphnmllbhaaHar
import Derived.Test.YtdhhmphnmllbhaaOpen
namespace Go.Proofs.Ytdhhmphnmllbhaa
open Go.RowKit Go.PM
set_option maxRecDepth 100000 in
set_option maxHeartbeats 6400000 in
theorem exSame (w : World) (v0 : Value) (n0 : Nat) (hv : RdB w w.heap.size v0 n0) (v1 : Value) (n1 : Nat) (hv1 : RdB w w.heap.size v1 n1) :
    Calls Try.prog 4 #[v0, v1] w fun e w' => e = .returned (.bool true) ∧ Below w.heap.size w w' := by
  have hv0 := hv
  have hv10 := hv1
  obtain ⟨A, cap, rfl, hc, hn, _⟩ := hv
  obtain ⟨A1, cap1, rfl, hc1, hn1, _⟩ := hv1
  by_cases hbig : 1048576 < n0
  · have t : decide ((n0 : Int) > 1048576) = true := by simp; omega
    go_enter Try.func4, Try.ntmps4
    go_wp2
    go_ret
    exact ⟨rfl, Below.refl _ _⟩
  have t : decide ((n0 : Int) > 1048576) = false := by simp; omega
  by_cases hbig1 : 1048576 < n1
  · have t1 : decide ((n1 : Int) > 1048576) = true := by simp; omega
    go_enter Try.func4, Try.ntmps4
    go_wp2
    go_ret
    exact ⟨rfl, Below.refl _ _⟩
  have t1 : decide ((n1 : Int) > 1048576) = false := by simp; omega
  have HD := Lib.hid (drawDropIdle_c w _ n0 hv0)
  have HV0 := Lib.hid hv10
  clear hv0 hv10
  go_enter Try.func4, Try.ntmps4
  go_wp2_with fail
  refine HD.out.mono ?_
  rintro e w1 ⟨u, xs, rfl, ho, ⟨hl, hz⟩, b1⟩
  have R1 : RdM w1 u xs := Rd.of_own ho
  have hz1 : ∀ m ∈ xs, m.1.size ≤ 9223372036854775807 ∧ m.2.size ≤ 9223372036854775807 := fun m hm => by have := hz m hm; omega
  have HIC := Lib.hid (fun W (R : RdM W u xs) => imDropIdle_c xs u W R (by omega))
  have HIS := Lib.hid (fun W (R : RdM W u xs) => imSortMoves_c xs u W R)
  have HIP := Lib.hid (fun W (R : RdM W u xs) => imPlacesIn_c xs u W R)
  have HSC := Lib.hid (fun W (R : RdM W u xs) => spDropIdle_c xs u W R hz1 (by omega))
  have HSS := Lib.hid (fun W (R : RdM W u xs) => spSortMoves_c xs u W R hz1 (by omega))
  have HSP := Lib.hid (fun W (R : RdM W u xs) => spPlacesIn_c xs u W R hz1 (by omega))
  have HQ : Hid (∀ zs v u W, RdM W v zs → RdM W u zs → Calls Try.prog 18 #[v, u] W fun e w' => e = .returned (.bool true) ∧ Below W.heap.size W w') := fun zs v u W P Q => by
    have := pmSame_c zs zs v u W P Q
    rwa [show decide (zs = zs) = true by simp] at this
  clear HD ho hz hz1
  have HMV : Hid (mvalid xs = decide (MV xs)) := rfl
  have e1 : (mvalid xs != mvalid xs) = false := by simp
  have e2 : ((okS (mvalid xs) (plcs xs)).toList != (okS (mvalid xs) (plcs xs)).toList) = false := by simp
  go_wp2_with fail
  refine (HIC.out _ R1).mono ?_
  rintro e w2 ⟨vd, rfl, od, h2⟩
  have b2 := b1.trans (h2.mono b1.size)
  have R2 := R1.below h2
  have D2 : RdM w2 vd (dropM xs) := Rd.of_own od
  clear od
  clear h2 b1 R1
  go_wp2_with fail
  refine (HIS.out _ R2).mono ?_
  rintro e w3 ⟨vs, rfl, os_, h3⟩
  have b3 := b2.trans (h3.mono b2.size)
  have R3 := R2.below h3
  have D3 := D2.below h3
  have S3 : RdM w3 vs (sortM xs) := Rd.of_own os_
  clear os_
  clear h3 b2 R2 D2
  go_wp2_with fail
  refine (HIP.out _ R3).mono ?_
  rintro e w4 ⟨rfl, h4⟩
  have b4 := b3.trans (h4.mono b3.size)
  have R4 := R3.below h4
  have D4 := D3.below h4
  have S4 := S3.below h4
  clear h4 b3 R3 D3 S3
  go_wp2_with fail
  refine (HSC.out _ R4).mono ?_
  rintro e w5 ⟨ve, rfl, oe, h5⟩
  have b5 := b4.trans (h5.mono b4.size)
  have R5 := R4.below h5
  have D5 := D4.below h5
  have S5 := S4.below h5
  have E5 : RdM w5 ve (dropM xs) := Rd.of_own oe
  clear oe
  clear h5 b4 R4 D4 S4
  go_wp2_with fail
  refine (HSS.out _ R5).mono ?_
  rintro e w6 ⟨vt, rfl, ot, h6⟩
  have b6 := b5.trans (h6.mono b5.size)
  have R6 := R5.below h6
  have D6 := D5.below h6
  have S6 := S5.below h6
  have E6 := E5.below h6
  have T6 : RdM w6 vt (sortM xs) := Rd.of_own ot
  clear ot
  clear h6 b5 R5 D5 S5 E5
  go_wp2_with fail
  refine (HSP.out _ R6).mono ?_
  rintro e w7 ⟨rfl, h7⟩
  have b7 := b6.trans (h7.mono b6.size)
  have R7 := R6.below h7
  have D7 := D6.below h7
  have S7 := S6.below h7
  have E7 := E6.below h7
  have T7 := T6.below h7
  clear h7 b6 R6 D6 S6 E6 T6
  have HDM := Lib.hid (drawSameMoves_c w7 _ n1 (HV0.out.now b7))
  go_wp2_with fail
  refine HDM.out.mono ?_
  rintro e w8 ⟨va, vb, rfl, al, bl, A8, B8, ha, hb, h8⟩
  have b8 := b7.trans (h8.mono b7.size)
  have R8 := R7.below h8
  have D8 := D7.below h8
  have S8 := S7.below h8
  have E8 := E7.below h8
  have T8 := T7.below h8
  clear h8 b7 R7 D7 S7 E7 T7 HDM
  have HIM := Lib.hid (fun W v u (P : RdM W v al) (Q : RdM W u bl) => imSameMoves_c al bl v u W P Q)
  have HIN : Hid (∀ W v u, RdM W v al → RdM W u bl → Calls Try.prog 19 #[u, v] W fun e w' => e = .returned (.bool (sameM al bl)) ∧ Below W.heap.size W w') := fun W v u P Q => by
    rw [sameM_comm al bl]; exact imSameMoves_c bl al u v W Q P
  have HSM := Lib.hid (fun W v u (P : RdM W v al) (Q : RdM W u bl) => spSameMoves_c al bl v u W P Q (fun m hm => by have := ha.2 m hm; omega) (by have := ha.1; omega) (fun m hm => by have := hb.2 m hm; omega) (by have := hb.1; omega))
  have eS : (sameM al bl != sameM al bl) = false := by simp
  clear ha hb
  generalize sameM al bl = sm at *
  go_wp2_with fail
  refine (HQ.out _ _ _ _ D8 E8).mono ?_
  rintro e w9 ⟨rfl, h9⟩
  have b9 := b8.trans (h9.mono b8.size)
  have R9 := R8.below h9
  have D9 := D8.below h9
  have S9 := S8.below h9
  have T9 := T8.below h9
  have A9 := A8.below h9
  have B9 := B8.below h9
  clear h9 b8 R8 D8 S8 T8 A8 B8
  clear E8
  go_wp2_with fail
  refine (HQ.out _ _ _ _ S9 T9).mono ?_
  rintro e w10 ⟨rfl, h10⟩
  have b10 := b9.trans (h10.mono b9.size)
  have R10 := R9.below h10
  have D10 := D9.below h10
  have S10 := S9.below h10
  have A10 := A9.below h10
  have B10 := B9.below h10
  clear h10 b9 R9 D9 S9 A9 B9
  clear T9
  go_wp2_with fail
  refine (HIM.out _ _ _ A10 B10).mono ?_
  rintro e w11 ⟨rfl, h11⟩
  have b11 := b10.trans (h11.mono b10.size)
  have R11 := R10.below h11
  have D11 := D10.below h11
  have S11 := S10.below h11
  have A11 := A10.below h11
  have B11 := B10.below h11
  clear h11 b10 R10 D10 S10 A10 B10
  go_wp2_with fail
  refine (HSM.out _ _ _ A11 B11).mono ?_
  rintro e w12 ⟨rfl, h12⟩
  have b12 := b11.trans (h12.mono b11.size)
  have R12 := R11.below h12
  have D12 := D11.below h12
  have S12 := S11.below h12
  have A12 := A11.below h12
  have B12 := B11.below h12
  clear h12 b11 R11 D11 S11 A11 B11
  go_wp2_with fail
  refine (HIM.out _ _ _ A12 B12).mono ?_
  rintro e w13 ⟨rfl, h13⟩
  have b13 := b12.trans (h13.mono b12.size)
  have R13 := R12.below h13
  have D13 := D12.below h13
  have S13 := S12.below h13
  have A13 := A12.below h13
  have B13 := B12.below h13
  clear h13 b12 R12 D12 S12 A12 B12
  go_wp2_with fail
  refine (HIN.out _ _ _ A13 B13).mono ?_
  rintro e w14 ⟨rfl, h14⟩
  have b14 := b13.trans (h14.mono b13.size)
  have R14 := R13.below h14
  have D14 := D13.below h14
  have S14 := S13.below h14
  clear h14 b13 R13 D13 S13
  clear A13 B13 HIM HIN HSM HV0 HIC HIS HIP HSC HSS HSP HQ
  have hDl := dropM_le xs
  have hDX := Lib.hid (fun h : MV xs => (⟨fun k hk => ((drop_mem h _).1 (List.getElem_mem hk)).2, drop_same h, sort_same h, sort_len h, fun k _ hk => sort_up h k hk⟩ : (∀ k (hk : k < (dropM xs).length), (dropM xs)[k].1 ≠ (dropM xs)[k].2) ∧ sameM (dropM xs) xs = true ∧ sameM (sortM xs) xs = true ∧ (sortM xs).length = xs.length ∧ ∀ k (h0 : k < (sortM xs).length) (hk : k + 1 < (sortM xs).length), pmI (sortM xs)[k].1 < pmI (sortM xs)[k + 1].1))
  have HI1 := Lib.hid (fun W (D : RdM W vd (dropM xs)) (R : RdM W u xs) => imSameMoves_c (dropM xs) xs vd u W D R)
  have HI2 := Lib.hid (fun W (D : RdM W vs (sortM xs)) (R : RdM W u xs) => imSameMoves_c (sortM xs) xs vs u W D R)
  have HPX := Lib.hid (fun a W => pmIndex_c a W)
  obtain ⟨Au, cu, eu, hnu, hcu, _⟩ := R14.open
  obtain ⟨Ad, cd, ed, hnd, hcd, hcelld⟩ := D14.open
  obtain ⟨As, cs, es, hns, hcs, hcells⟩ := S14.open
  subst eu
  subst ed
  subst es
  rcases Bool.eq_false_or_eq_true (mvalid xs) with hm | hm
  · have h := hDX.out (by simpa [mvalid] using hm)
    obtain ⟨h1, h2, h3, h4, h5⟩ := h
    have H1 := Lib.hid h1
    have H5 := Lib.hid h5
    rw [h2] at HI1
    rw [h3] at HI2
    have h6 := hDl
    rw [← h4] at h6
    rw [hm]
    clear hDX h1 h2 h3 h5 e1 e2 eS hm hDl HMV
    have h7 : decide (((dropM xs).length : Int) ≤ (xs.length : Int)) = true := by rw [decide_eq_true_eq]; omega
    have h8 : (((sortM xs).length : Int) == (xs.length : Int)) = true := by rw [h4]; simp
    have H4 := Lib.hid h4
    have H6 := Lib.hid h6
    have hdl : (dropM xs).length ≤ 1048576 := by omega
    have hsl : (sortM xs).length ≤ 1048576 := by omega
    clear h4 h6
    generalize dropM xs = ds at *
    generalize sortM xs = ss at *
    go_wp2
    go_loopw [21, 132] (fun _ i wr => ∃ (k : Nat), k ≤ ds.length ∧ i = .int .i64 k ∧ Below w14.heap.size w14 wr) (fun _ i _ => ds.length - (intOf i).toNat)
    case atStart => exact ⟨0, by omega, rfl, Below.refl _ _⟩
    case round =>
      obtain ⟨k, hk, rfl, hb⟩ := hrel
      have hbs := hb.size
      by_cases hlt : k < ds.length
      · obtain ⟨b, off, rfl, hbl, hc1, hc2⟩ := hcelld k hlt
        have hd1 := (hb.cell (p := ⟨b, off + k * 2, none⟩) hbl).trans hc1
        have hd2 := (hb.cell (p := ⟨b, off + k * 2 + 1, none⟩) hbl).trans hc2
        have i1 : (k : Int) < (ds.length : Int) := by omega
        have hne := H1.out k hlt
        clear hc1 hc2 hcelld
        generalize ds[k].1 = x1 at *
        generalize ds[k].2 = x2 at *
        have tx : (x1.toList == x2.toList) = false := by rw [beq_str, decide_eq_false hne]
        clear hne
        go_wp2
        go_roundw
        case rel => exact ⟨k + 1, by omega, by go_num, by (repeat' (first | (with_reducible exact Below.refl _ _) | (with_reducible assumption) | (with_reducible refine Below.alloc ?_ ?_ _) | (with_reducible refine Below.drew ?_) | (with_reducible refine Below.setCell ?_ ?_ _) | (with_reducible exact Nat.le_refl _) | omega | ((repeat (first | rewrite [World.size_alloc] | rewrite [World.size_setCell] | rewrite [World.size_drew])); omega) | (simp; omega) | (simp; done)))⟩
        case measure => simp [intOf] <;> omega
      · go_wp2
        rename World => wo
        have hb0 := hb
        go_loopw [22] (fun i wr => ∃ (k : Nat), 1 ≤ k ∧ (k ≤ ss.length ∨ k = 1) ∧ i = .int .i64 k ∧ Below w14.heap.size w14 wr) (fun i _ => ss.length - (intOf i).toNat)
        case atStart => exact ⟨1, by omega, .inr rfl, rfl, hb0⟩
        case round =>
          obtain ⟨k, hk1, hk2, rfl, hb⟩ := hrel
          have hbs := hb.size
          by_cases hlt2 : k < ss.length
          · obtain ⟨K, hkK⟩ : ∃ K, k = K + 1 := ⟨k - 1, by omega⟩
            have hKlt : K < ss.length := by omega
            obtain ⟨b, off, rfl, hbl, hc1, _⟩ := hcells K hKlt
            have hc2 : w14.cell? ⟨b, off + k * 2, none⟩ = some (.string ss[k].1) := by
              obtain ⟨b', off', e', _, hc2, _⟩ := hcells k hlt2
              cases e'
              exact hc2
            have hd1 := (hb.cell (p := ⟨b, off + K * 2, none⟩) hbl).trans hc1
            have hd2 := (hb.cell (p := ⟨b, off + k * 2, none⟩) hbl).trans hc2
            have hblr : b < wr.heap.size := by omega
            have hup : pmI (ss[K]'hKlt).1 < pmI ss[k].1 := by subst hkK; exact H5.out K (by omega) hlt2
            have hwK : IntKind.i64.wrap ((k : Int) - 1) = (K : Int) := by rw [IntKind.wrap_i64]; omega
            have j1 : (k : Int) < (ss.length : Int) := by omega
            have j2 : (K : Int) < (ss.length : Int) := by omega
            have j0 : (0 : Int) ≤ (K : Int) := by omega
            have j4 : (0 : Int) ≤ (k : Int) := by omega
            clear hc1 hc2 hkK
            generalize (ss[K]'hKlt).1 = x1 at *
            generalize ss[k].1 = x2 at *
            go_wp2
            refine wp_region_held_drew (S := fun W => Below wr.heap.size wr W) (by kernel_rfl) (Below.refl _ _).drew (fun hHeld => ?_)
            refine wpAnyH_take (i := 0) (oi := _) (v := ?_) rfl (by kernel_rfl) (by kernel_rfl) (by kernel_rfl) (fun _ _ _ h => h) (Or.inl ⟨by rfl, by intro w0 hS; go_simp; rfl⟩) hHeld ?_
            simp only [Act.put, List.getElem_toArray, List.getElem_cons_zero, List.setIfInBounds_toArray, List.set_cons_succ, List.set_cons_zero]
            refine wpAnyH_take (i := 1) (oi := _) (v := ?_) rfl (by kernel_rfl) (by kernel_rfl) (by kernel_rfl) (fun _ _ _ h => h) (Or.inl ⟨by rfl, by intro w0 hS; go_simp; rfl⟩) hHeld ?_
            simp only [Act.put, List.getElem_toArray, List.getElem_cons_succ, List.getElem_cons_zero, List.setIfInBounds_toArray, List.set_cons_succ, List.set_cons_zero]
            refine wpAnyH_take (i := 2) (oi := _) (v := .int .i64 (K : Int)) rfl (by kernel_rfl) (by kernel_rfl) (by kernel_rfl) (fun _ _ _ h => h) (Or.inl ⟨by rfl, by intro w0 hS; go_simp; try rw [hwK]⟩) hHeld ?_
            simp only [Act.put, List.getElem_toArray, List.getElem_cons_succ, List.getElem_cons_zero, List.setIfInBounds_toArray, List.set_cons_succ, List.set_cons_zero]
            refine wpAnyH_take (i := 3) (oi := _) (v := .pointer (some ⟨b, off + K * 2, none⟩)) rfl (by kernel_rfl) (by kernel_rfl) (by kernel_rfl) (fun _ _ _ h => h) (Or.inl ⟨by rfl, by intro w0 hS; go_simp⟩) hHeld ?_
            simp only [Act.put, List.getElem_toArray, List.getElem_cons_succ, List.getElem_cons_zero, List.setIfInBounds_toArray, List.set_cons_succ, List.set_cons_zero]
            refine wpAnyH_take (i := 4) (oi := _) (v := .pointer (some ⟨b, off + K * 2, none⟩)) rfl (by kernel_rfl) (by kernel_rfl) (by kernel_rfl) (fun _ _ _ h => h) (Or.inl ⟨by rfl, by intro w0 hS; go_simp⟩) hHeld ?_
            simp only [Act.put, List.getElem_toArray, List.getElem_cons_succ, List.getElem_cons_zero, List.setIfInBounds_toArray, List.set_cons_succ, List.set_cons_zero]
            refine wpAnyH_take (i := 5) (oi := _) (v := .string x1) rfl (by kernel_rfl) (by kernel_rfl) (by kernel_rfl) (fun _ _ _ h => h) (Or.inl ⟨by rfl, by intro w0 hS; have e1 := (hS.cell (p := ⟨b, off + K * 2, none⟩) hblr).trans hd1; go_simp⟩) hHeld ?_
            simp only [Act.put, List.getElem_toArray, List.getElem_cons_succ, List.getElem_cons_zero, List.setIfInBounds_toArray, List.set_cons_succ, List.set_cons_zero]
            refine wpAnyH_take (i := 7) (oi := _) (v := ?_) rfl (by kernel_rfl) (by kernel_rfl) (by kernel_rfl) (fun _ _ _ h => h) (Or.inl ⟨by rfl, by intro w0 hS; go_simp; rfl⟩) hHeld ?_
            simp only [Act.put, List.getElem_toArray, List.getElem_cons_succ, List.getElem_cons_zero, List.setIfInBounds_toArray, List.set_cons_succ, List.set_cons_zero]
            refine wpAnyH_take (i := 8) (oi := _) (v := ?_) rfl (by kernel_rfl) (by kernel_rfl) (by kernel_rfl) (fun _ _ _ h => h) (Or.inl ⟨by rfl, by intro w0 hS; go_simp; rfl⟩) hHeld ?_
            simp only [Act.put, List.getElem_toArray, List.getElem_cons_succ, List.getElem_cons_zero, List.setIfInBounds_toArray, List.set_cons_succ, List.set_cons_zero]
            refine wpAnyH_take (i := 9) (oi := _) (v := .pointer (some ⟨b, off + k * 2, none⟩)) rfl (by kernel_rfl) (by kernel_rfl) (by kernel_rfl) (fun _ _ _ h => h) (Or.inl ⟨by rfl, by intro w0 hS; go_simp⟩) hHeld ?_
            simp only [Act.put, List.getElem_toArray, List.getElem_cons_succ, List.getElem_cons_zero, List.setIfInBounds_toArray, List.set_cons_succ, List.set_cons_zero]
            refine wpAnyH_take (i := 10) (oi := _) (v := .pointer (some ⟨b, off + k * 2, none⟩)) rfl (by kernel_rfl) (by kernel_rfl) (by kernel_rfl) (fun _ _ _ h => h) (Or.inl ⟨by rfl, by intro w0 hS; go_simp⟩) hHeld ?_
            simp only [Act.put, List.getElem_toArray, List.getElem_cons_succ, List.getElem_cons_zero, List.setIfInBounds_toArray, List.set_cons_succ, List.set_cons_zero]
            refine wpAnyH_take (i := 11) (oi := _) (v := .string x2) rfl (by kernel_rfl) (by kernel_rfl) (by kernel_rfl) (fun _ _ _ h => h) (Or.inl ⟨by rfl, by intro w0 hS; have e1 := (hS.cell (p := ⟨b, off + k * 2, none⟩) hblr).trans hd2; go_simp⟩) hHeld ?_
            simp only [Act.put, List.getElem_toArray, List.getElem_cons_succ, List.getElem_cons_zero, List.setIfInBounds_toArray, List.set_cons_succ, List.set_cons_zero]
            refine wpAnyH_ready (rs := [6]) (by kernel_rfl) (by simp) ?_
            refine AllReadyH.cons rfl (fun K1 hK1 => ?_) AllReadyH.nil
            go_simp
            go_at_call 21
            refine (HPX.out x1 _).mono ?_
            rintro e wx ⟨rfl, hx⟩
            have hHeld2 := hHeld.trans (hx.mono hHeld.size)
            refine hK1.out _ _ hHeld2 (fun _ => ?_)
            clear hK1 K1
            try simp only [Act.put, List.getElem_toArray, List.getElem_cons_succ, List.getElem_cons_zero, List.setIfInBounds_toArray, List.set_cons_succ, List.set_cons_zero]
            refine wpAnyH_ready (rs := [12]) (by kernel_rfl) (by simp) ?_
            refine AllReadyH.cons rfl (fun K1 hK1 => ?_) AllReadyH.nil
            go_simp
            go_at_call 21
            refine (HPX.out x2 _).mono ?_
            rintro e wy ⟨rfl, hy⟩
            have hHeld3 := hHeld2.trans (hy.mono hHeld2.size)
            refine hK1.out _ _ hHeld3 (fun _ => ?_)
            clear hK1 K1
            try simp only [Act.put, List.getElem_toArray, List.getElem_cons_succ, List.getElem_cons_zero, List.setIfInBounds_toArray, List.set_cons_succ, List.set_cons_zero]
            refine wpAnyH_take (i := 13) (oi := _) (v := .bool (decide (pmI x1 ≥ pmI x2))) rfl (by kernel_rfl) (by kernel_rfl) (by kernel_rfl) (fun _ _ _ h => h) (Or.inl ⟨by rfl, by intro w0 hS; go_simp⟩) hHeld3 ?_
            simp only [Act.put, List.getElem_toArray, List.getElem_cons_succ, List.getElem_cons_zero, List.setIfInBounds_toArray, List.set_cons_succ, List.set_cons_zero]
            rw [decide_eq_false (by omega : ¬ pmI x1 ≥ pmI x2)]
            refine wpAnyH_done (by kernel_rfl) ?_ _
            have hbF := hb.trans (hHeld3.mono hb.size)
            clear hHeld hHeld2 hHeld3 hx hy
            go_wp2
            go_roundw
            case rel => exact ⟨k + 1, by omega, by omega, by go_num, hbF⟩
            case measure => simp [intOf] <;> omega
          · have hD := HI1.out wr (D14.below hb) (R14.below hb)
            go_wp2_with (go_at_call 19; refine hD.mono ?_; rintro e wx ⟨rfl, hx⟩; refine held ?_)
            unfold Held
            have hbx := hb.trans (hx.mono hbs)
            have hsx := hbx.size
            have hS := HI2.out wx (S14.below hbx) (R14.below hbx)
            clear hx hD
            go_wp2_with (go_at_call 19; refine hS.mono ?_; rintro e wy ⟨rfl, hy⟩; refine held ?_)
            unfold Held
            have hby := b14.trans ((hbx.trans (hy.mono hsx)).mono b14.size)
            clear hy hS
            have h9 : decide (ds.length ≤ xs.length) = true := by
              have a1 := H6.out
              have a2 := H4.out
              rw [decide_eq_true_eq]; omega
            have H9 := Lib.hid h9
            clear h9
            go_wp2
            go_ret
            refine ⟨?_, hby⟩
            show Ending.returned (.bool (decide (ds.length ≤ xs.length))) = _
            rw [H9.out]
  · have hd0 : (dropM xs).length = 0 := by rw [drop_no hm]; rfl
    have hs0 : (sortM xs).length = 0 := by rw [sort_no hm]; rfl
    have hp0 : okS false (plcs xs) = ⟨#[]⟩ := rfl
    rw [hm, hp0]
    have e3 : (((dropM xs).length : Int) == 0) = true := by rw [hd0]; rfl
    have e4 : (((sortM xs).length : Int) == 0) = true := by rw [hs0]; rfl
    clear hd0 hs0 hp0
    go_wp2
    go_ret
    exact ⟨rfl, b14⟩

namespace fnSame
open Go.RowKit Go.PM Go.ChangeShapes Go.WideShapes Go.ChangeAt
open Go.ChangeMaps (open_string shut_string)
set_option maxRecDepth 100000 in
theorem lifted (os : Os) (started : os.Started) (H : Type) (enc : TypeId × Value → H) :
    ReturnsInHanded {} Try.checked os 4 .any (Rows.fnSameSpec.pre6 enc Try.prog Try.f4 Rows.fnSameRow.domain false) (Rows.fnSameSpec.post enc Try.prog Try.f4 false true false false) := by
  refine returnsInHanded_of_change (C := Try.checked) own started (by kernel_rfl) Try.func4
    (ChangeSpec.witness6 (enc := enc) (C := Try.checked) false ⟨#[], #[.slice none 0 0, .slice none 0 0], []⟩ 8 (by kernel_rfl) (by kernel_rfl) (by kernel_rfl) (by kernel_rfl)) ?_
  intro W base args ds gs before hval0 hW hcnd _
  have hval : ∀ (j : Nat) t v, Try.f4.params[j]? = some t → args[j]? = some v → Value.okWide Try.prog W .any base t v := hval0
  have hW' := hW
  obtain ⟨p, q, hA0, hV, rfl, hfz, hnd⟩ := hW
  have hA : DataW.TrodAll enc Try.prog W 0 (fun _ => true) true Try.f4.params.toList args.toList ds p := hA0
  rw [Try.params4] at hA hval
  obtain ⟨v0, vs0, d0, ds0, p0, q0, hargs, rfl, rfl, h0, r0⟩ := trodAll_cons hA
  obtain ⟨v1, vs1, d1, ds1, p1, q1, rfl, rfl, rfl, h1, r1⟩ := trodAll_cons r0
  obtain ⟨rfl, rfl, rfl⟩ := trodAll_nil r1
  obtain rfl : args = #[v0, v1] := by cases args; simp_all
  obtain ⟨rfl, rfl⟩ := trodVars_none hV
  have k0 := h0
  have lt0 : ∀ x ∈ p0, x.block < W.heap.size := by obtain ⟨m, hm⟩ := k0; exact DataW.trod_lt m _ _ _ hm
  have k1 := h1
  have lt1 : ∀ x ∈ p1, x.block < W.heap.size := by obtain ⟨m, hm⟩ := k1; exact DataW.trod_lt m _ _ _ hm
  obtain ⟨a0, len0, cap0, rfl⟩ := okWide_slice Try.underlying30 (hval 0 30 v0 rfl rfl)
  have hx0 : RdB W W.heap.size (.slice a0 len0 cap0) len0 := by obtain ⟨fuel, hf⟩ := h0; exact open_bytes hf
  obtain ⟨a1, len1, cap1, rfl⟩ := okWide_slice Try.underlying30 (hval 1 30 v1 rfl rfl)
  have hx1 : RdB W W.heap.size (.slice a1 len1 cap1) len1 := by obtain ⟨fuel, hf⟩ := h1; exact open_bytes hf
  clear hA0 hval0
  refine (exSame W _ len0 hx0 _ len1 hx1).mono fun e W' ⟨he, bel⟩ => ?_
  subst he
  exact ⟨_, rfl, _, _, _, [], _, [], hW', trodAll_mk1 (shut_bool Try.underlying4 _), (trodAll_cons_mk (Below.trod laidOut (by kernel_rfl) (of_decide_eq_true (by kernel_rfl)) k0 bel lt0) (trodAll_cons_mk (Below.trod laidOut (by kernel_rfl) (of_decide_eq_true (by kernel_rfl)) k1 bel lt1) trodAll_mk0)), rfl, bel.frame _, fun h => by cases h⟩

theorem over : Rows.fnSameRow.holds Try.pinned (OpenSpec.ofChange Rows.fnSameSpec) :=
  OpenClaim.holds_of_wide 4 Try.f4 rfl rfl rfl rfl rfl rfl rfl ⟨rfl, rfl, rfl, rfl, rfl⟩ rfl rfl rfl rfl rfl (by kernel_rfl) Try.func4 (by kernel_rfl)
    (of_decide_eq_true (by kernel_rfl)) (by unfold Func.isWrapper; first | (rw [if_pos (by decide +kernel)]; kernel_rfl) | (rw [if_neg (by decide +kernel)]; exact ⟨rfl, rfl⟩))
    (fun os started H enc _ => lifted os started H enc)

/-- The statement. -/
theorem proved : Rows.FnSameSaid := over
end fnSame
end Go.Proofs.Ytdhhmphnmllbhaa
