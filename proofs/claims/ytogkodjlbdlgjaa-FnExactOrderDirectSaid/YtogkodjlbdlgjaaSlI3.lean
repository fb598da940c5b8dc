import Derived.Test.YtogkodjlbdlgjaaSlI2
namespace Go.PD
open Go.PM Go.RowKit
def trZ (f : St → Nat) (xs : List St) : Int := if svalid xs then ((trS f xs : Nat) : Int) else 0
theorem trS_zero (f : St → Nat) (xs : List St) : trS f (xs.take 0) = 0 := by simp [trS]
end Go.PD
namespace Go.Proofs.Ytogkodjlbdlgjaa
open Go.RowKit Go.PM Go.PD Go.Lib

set_option maxRecDepth 100000 in
set_option maxHeartbeats 1600000 in
theorem imSlotTraffic_c (xs : List St) (v : Value) (w : World) (hx : RdS w v xs) :
    Calls Try.prog 29 #[v] w fun e w' => e = .returned (.tuple #[.int .i64 (trZ trR xs), .int .i64 (trZ trW xs), .bool (svalid xs)]) ∧ Below w.heap.size w w' := by
  have hsv := Lib.hid (imSequenceValid_c xs v w hx)
  rcases Bool.eq_false_or_eq_true (svalid xs) with h1 | h1
  · have HZ : Hid (trZ trR xs = ((trS trR xs : Nat) : Int) ∧ trZ trW xs = ((trS trW xs : Nat) : Int)) := by
      unfold Hid trZ; rw [h1]; exact ⟨rfl, rfl⟩
    have HR := Lib.hid (fun k hk => trS_succ trR xs k hk)
    have HW := Lib.hid (fun k hk => trS_succ trW xs k hk)
    have HRL := Lib.hid (fun k => trS_le trR (fun x => (tr_le x).1) xs k)
    have HWL := Lib.hid (fun k => trS_le trW (fun x => (tr_le x).2) xs k)
    have HR0 := Lib.hid (trS_zero trR xs)
    have HW0 := Lib.hid (trS_zero trW xs)
    have HTL := Lib.hid (fun x : St => tr_le x)
    have hlen := svalid_len h1
    have H1 := Lib.hid h1
    clear h1
    go_enter Try.func29, Try.ntmps29
    go_wp2_with fail
    refine hsv.out.mono ?_
    rintro e w1 ⟨rfl, hb1⟩
    rw [H1.out]
    have hs1 := hb1.size
    have hx1 := hx.below hb1
    obtain ⟨A, cap, rfl, hn, hc, hcell⟩ := hx1.open
    clear hx1
    have hA0 := At.new w1 98 #[.int .i64 0, .int .i64 0]
    go_wp2
    go_loopw [7, 13] (fun _ i wr => ∃ (k : Nat), k ≤ xs.length ∧ i = .int .i64 k ∧ At wr w1.heap.size 98 #[.int .i64 ((trS trR (xs.take k) : Nat) : Int), .int .i64 ((trS trW (xs.take k) : Nat) : Int)] ∧ Below w1.heap.size w1 wr) (fun _ i _ => xs.length - (RowKit.intOf i).toNat)
    case atStart => exact ⟨0, by omega, rfl, by rw [HR0.out, HW0.out]; exact hA0, (Below.refl _ _).alloc (Nat.le_refl _) _⟩
    case round =>
      clear hA0
      obtain ⟨k, hk, rfl, hA, hb⟩ := hrel
      have hbs := hb.size
      have hlA := hA.lt
      by_cases hlt : k < xs.length
      · obtain ⟨b, off, rfl, hbl, hc1, hc2, hc3⟩ := hcell k hlt
        have hd1 := (hb.cell (p := ⟨b, off + k * 3, none⟩) hbl).trans hc1
        have hd2 := (hb.cell (p := ⟨b, off + k * 3 + 1, none⟩) hbl).trans hc2
        have hd3 := (hb.cell (p := ⟨b, off + k * 3 + 2, none⟩) hbl).trans hc3
        clear hc1 hc2 hc3 hcell
        have hr1 := HRL.out k
        have hw1 := HWL.out k
        have er : ((trS trR (xs.take (k + 1)) : Nat) : Int) = ((trS trR (xs.take k) : Nat) : Int) + ((trR (xs[k].1, xs[k].2.1, xs[k].2.2) : Nat) : Int) := by rw [HR.out k hlt]; push_cast; rfl
        have ew : ((trS trW (xs.take (k + 1)) : Nat) : Int) = ((trS trW (xs.take k) : Nat) : Int) + ((trW (xs[k].1, xs[k].2.1, xs[k].2.2) : Nat) : Int) := by rw [HW.out k hlt]; push_cast; rfl
        have htl := HTL.out (xs[k].1, xs[k].2.1, xs[k].2.2)
        have HTR := Lib.hid (fun W => traffic_c xs[k].1 xs[k].2.1 xs[k].2.2 W)
        generalize xs[k].1 = x1 at *
        generalize xs[k].2.1 = x2 at *
        generalize xs[k].2.2 = x3 at *
        have HER := Lib.hid er
        have HEW := Lib.hid ew
        clear er ew
        generalize trR (x1, x2, x3) = tr1 at *
        generalize trW (x1, x2, x3) = tw1 at *
        generalize trS trR (xs.take k) = sr at *
        generalize trS trW (xs.take k) = sw at *
        go_wp2_with fail
        refine (HTR.out _).mono ?_
        rintro e w2 ⟨rfl, hb2⟩
        have hb3 : Below wr.heap.size wr w2 := Below.trans ((Below.refl _ _).alloc (Nat.le_refl _) _) (hb2.mono (by simp))
        have hA2 := hA.keep hb3
        have hb4 := hb.trans (hb3.mono hbs)
        have hs4 := hb4.size
        have HAD := Lib.hid (slotAdd_c w1.heap.size (sr : Int) (sw : Int) (tr1 : Int) (tw1 : Int) w2 hA2 (by omega) (by omega) (by omega) (by omega))
        clear hb2 hb3 hA hb hd1 hd2 hd3 hA2
        go_wp2_with fail
        refine HAD.out.mono ?_
        rintro e w3 ⟨⟨v3, rfl⟩, hA3, hg3⟩
        have hb5 := hb4.trans (below_grown hg3 hs4 (fun g e => by cases e; exact Nat.le_refl _))
        clear hb4 hg3
        go_wp2
        go_roundw
        case rel => exact ⟨k + 1, by omega, by go_num, by rw [HER.out, HEW.out]; exact hA3, hb5⟩
        case measure => simp [RowKit.intOf]; omega
      · have hk' : k = xs.length := by omega
        subst hk'
        have hC1 := hA.cell 0
        have hC2 := hA.cell 1
        have q1 : wr.cell? ⟨w1.heap.size, 0, none⟩ = some (.int .i64 ((trS trR (xs.take xs.length) : Nat) : Int)) := hC1
        have q2 : wr.cell? ⟨w1.heap.size, 1, none⟩ = some (.int .i64 ((trS trW (xs.take xs.length) : Nat) : Int)) := hC2
        clear hC1 hC2 hA hcell
        go_wp2
        refine wp_region_quiet (C := fun w' => w' = wr.drew) (by kernel_rfl) (by kernel_rfl) rfl ?_
        simp only
        repeat (go_big_quiet_step (fail))
        refine wpQuiet_nil ?_
        intro w' hw'
        subst hw'
        go_wp2
        go_ret3
        exact ⟨by rw [HZ.out.1, HZ.out.2, H1.out]; rfl, hb1.trans (hb.mono hs1).drew⟩
  · have HZ : Hid (trZ trR xs = 0 ∧ trZ trW xs = 0) := by
      unfold Hid trZ; rw [h1]; exact ⟨rfl, rfl⟩
    have H1 := Lib.hid h1
    clear h1
    go_enter Try.func29, Try.ntmps29
    go_wp2_with fail
    refine hsv.out.mono ?_
    rintro e w1 ⟨rfl, hb1⟩
    rw [H1.out]
    go_wp2
    go_ret3
    exact ⟨by rw [HZ.out.1, HZ.out.2, H1.out]; rfl, hb1⟩
set_option maxRecDepth 100000 in
set_option maxHeartbeats 1600000 in
theorem imIsDirect_c (xs : List St) (v : Value) (w : World) (hx : RdS w v xs) :
    Calls Try.prog 18 #[v] w fun e w' => e = .returned (.bool (dirB xs)) ∧ Below w.heap.size w w' := by
  have hsv := Lib.hid (imSequenceValid_c xs v w hx)
  rcases Bool.eq_false_or_eq_true (svalid xs) with h1 | h1
  · have HF := Lib.hid (fun k hk h => dir_far (xs := xs) k hk h)
    have HA := Lib.hid (fun h => (dir_all (xs := xs) h).trans h1)
    have H1 := Lib.hid h1
    clear h1
    go_enter Try.func18, Try.ntmps18
    go_wp2_with fail
    refine hsv.out.mono ?_
    rintro e w1 ⟨rfl, hb1⟩
    rw [H1.out]
    have hs1 := hb1.size
    have hx1 := hx.below hb1
    obtain ⟨A, cap, rfl, hn, hc, hcell⟩ := hx1.open
    clear hx1
    go_wp2
    go_loopw [4, 10] (fun _ i wr => ∃ (k : Nat), k ≤ xs.length ∧ i = .int .i64 k ∧ Hid (∀ j (hj : j < xs.length), j < k → far xs[j] = false) ∧ Below w1.heap.size w1 wr) (fun _ i _ => xs.length - (RowKit.intOf i).toNat)
    case atStart => exact ⟨0, by omega, rfl, fun j _ hj => absurd hj (Nat.not_lt_zero j), Below.refl _ _⟩
    case round =>
      obtain ⟨k, hk, rfl, hm, hb⟩ := hrel
      have hbs := hb.size
      by_cases hlt : k < xs.length
      · obtain ⟨b, off, rfl, hbl, hc1, hc2, hc3⟩ := hcell k hlt
        have hd1 := (hb.cell (p := ⟨b, off + k * 3, none⟩) hbl).trans hc1
        have hd2 := (hb.cell (p := ⟨b, off + k * 3 + 1, none⟩) hbl).trans hc2
        have hd3 := (hb.cell (p := ⟨b, off + k * 3 + 2, none⟩) hbl).trans hc3
        clear hc1 hc2 hc3 hcell
        have HE : Hid (far xs[k] = far (xs[k].1, xs[k].2.1, xs[k].2.2)) := rfl
        have HFK := Lib.hid (HF.out k hlt)
        have HM : Hid (far xs[k] = false → ∀ j (hj : j < xs.length), j < k + 1 → far xs[j] = false) := by
          intro h j hj hjk
          rcases Nat.lt_succ_iff_lt_or_eq.1 hjk with h1 | h1
          · exact hm.out j hj h1
          · subst h1; exact h
        have HD := Lib.hid (fun W => direct_c xs[k].1 xs[k].2.1 xs[k].2.2 W)
        generalize xs[k].1 = x1 at *
        generalize xs[k].2.1 = x2 at *
        generalize xs[k].2.2 = x3 at *
        generalize far (x1, x2, x3) = f at *
        cases f
        · go_wp2_with fail
          refine (HD.out _).mono ?_
          rintro e w2 ⟨rfl, hb2⟩
          have hb3 : Below wr.heap.size wr w2 := Below.trans ((Below.refl _ _).alloc (Nat.le_refl _) _) (hb2.mono (by simp))
          have hb4 := hb.trans (hb3.mono hbs)
          clear hb2 hb3 hb hd1 hd2 hd3
          go_wp2
          go_roundw
          case rel => exact ⟨k + 1, by omega, by go_num, HM.out HE.out, hb4⟩
          case measure => simp [RowKit.intOf]; omega
        · go_wp2_with fail
          refine (HD.out _).mono ?_
          rintro e w2 ⟨rfl, hb2⟩
          have hb3 : Below wr.heap.size wr w2 := Below.trans ((Below.refl _ _).alloc (Nat.le_refl _) _) (hb2.mono (by simp))
          have hb4 := hb.trans (hb3.mono hbs)
          clear hb2 hb3 hb hd1 hd2 hd3
          go_wp2
          go_ret
          exact ⟨by rw [HFK.out HE.out]; rfl, hb1.trans (hb4.mono hs1)⟩
      · have HT : Hid (dirB xs = true) := HA.out (fun j hj => hm.out j hj (by omega))
        clear hcell
        go_wp2
        go_ret
        exact ⟨by rw [HT.out]; rfl, hb1.trans (hb.mono hs1)⟩
  · have HF := Lib.hid (dir_inv h1)
    have H1 := Lib.hid h1
    clear h1
    go_enter Try.func18, Try.ntmps18
    go_wp2_with fail
    refine hsv.out.mono ?_
    rintro e w1 ⟨rfl, hb1⟩
    rw [H1.out]
    go_wp2
    go_ret
    exact ⟨by rw [HF.out]; rfl, hb1⟩
set_option maxRecDepth 100000 in
set_option maxHeartbeats 1600000 in
theorem stepNames_c (xs : List St) (hv : svalid xs = true) (v : Value) (w : World) (hx : RdS w v xs) :
    Calls Try.prog 57 #[v] w fun e w' => e = .returned (.string (snT xs)) ∧ Below w.heap.size w w' := by
  obtain ⟨A, cap, rfl, hn, hc, hcell⟩ := hx.open
  have HSZ := Lib.hid (fun k => snT_size hv k)
  have HST := Lib.hid (fun k hk => snT_step xs k hk)
  have HOK := Lib.hid (fun k hk => ok_sizes (svalid_at hv k hk))
  have HF := Lib.hid (snT_full xs)
  have H0 : Hid (snT (xs.take 0) = ⟨#[]⟩) := rfl
  have hlen := svalid_len hv
  clear hv
  go_enter Try.func57, Try.ntmps57
  go_wp2
  go_loopw [3, 5, 8] (fun o _ i wr => ∃ (k : Nat), k ≤ xs.length ∧ i = .int .i64 k ∧ o = .string (snT (xs.take k)) ∧ Below w.heap.size w wr) (fun _ _ i _ => xs.length - (RowKit.intOf i).toNat)
  case atStart => exact ⟨0, by omega, rfl, by rw [H0.out], Below.refl _ _⟩
  case round =>
    obtain ⟨k, hk, rfl, rfl, hb⟩ := hrel
    have hbs := hb.size
    by_cases hlt : k < xs.length
    · obtain ⟨b, off, rfl, hbl, hc1, hc2, hc3⟩ := hcell k hlt
      have hd1 := (hb.cell (p := ⟨b, off + k * 3, none⟩) hbl).trans hc1
      have hd2 := (hb.cell (p := ⟨b, off + k * 3 + 1, none⟩) hbl).trans hc2
      have hd3 := (hb.cell (p := ⟨b, off + k * 3 + 2, none⟩) hbl).trans hc3
      clear hc1 hc2 hc3 hcell
      have hsz := HSZ.out k
      have hok := HOK.out k hlt
      have hst : snT (xs.take k) ++ (xs[k].2.1 ++ xs[k].2.2) = snT (xs.take (k + 1)) := HST.out k hlt
      generalize xs[k].1 = x1 at *
      generalize xs[k].2.1 = x2 at *
      generalize xs[k].2.2 = x3 at *
      obtain ⟨z1, z2⟩ := hok
      have hz3 : (x2 ++ x3).size = 2 := by rw [ByteArray.size_append]; omega
      have HST2 := Lib.hid hst
      clear hst
      generalize snT (xs.take k) = tk at *
      go_wp2
      go_roundw
      case rel => exact ⟨k + 1, by omega, by go_num, by rw [← HST2.out], hb.alloc hbs _⟩
      case measure => simp [RowKit.intOf]; omega
    · have hk' : k = xs.length := by omega
      subst hk'
      go_wp2
      go_ret
      exact ⟨by rw [← HF.out]; rfl, hb⟩
end Go.Proofs.Ytogkodjlbdlgjaa
