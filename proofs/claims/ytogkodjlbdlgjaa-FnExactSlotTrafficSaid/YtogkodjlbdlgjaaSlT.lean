import Derived.Test.YtogkodjlbdlgjaaSlI3
import Derived.Test.YtogkodjlbdlgjaaSlS
namespace Go.PD
open Go.PM Go.RowKit Go.Lib
theorem trR_b (k : Int) (a b : ByteArray) : ((trR (k, a, b) : Nat) : Int) = ((bN (slB b) : Nat) : Int) + (if k = 1 then ((bN (slB a) : Nat) : Int) else 0) := by
  by_cases h : k = 1
  · subst h; rw [trR_swap, slN_b, slN_b, if_pos rfl]; push_cast; omega
  · rw [trR_move k a b h, slN_b, if_neg h]; omega
theorem trW_b (k : Int) (a b : ByteArray) : ((trW (k, a, b) : Nat) : Int) = ((bN (slB a) : Nat) : Int) + (if k = 1 then ((bN (slB b) : Nat) : Int) else 0) := by
  by_cases h : k = 1
  · subst h; rw [trW_swap, slN_b, slN_b, if_pos rfl]; push_cast; omega
  · rw [trW_move k a b h, slN_b, if_neg h]; omega
theorem bN_yes : bN true = 1 := rfl
theorem bN_no : bN false = 0 := rfl
end Go.PD
namespace Go.Proofs.Ytogkodjlbdlgjaa
open Go.RowKit Go.PM Go.PD Go.Lib
set_option maxRecDepth 100000 in
set_option maxHeartbeats 2000000 in
theorem spSlotTraffic_c (xs : List St) (v : Value) (w : World) (hx : RdS w v xs) :
    Calls Try.prog 30 #[v] w fun e w' => e = .returned (.tuple #[.int .i64 (trZ trR xs), .int .i64 (trZ trW xs), .bool (svalid xs)]) ∧ Below w.heap.size w w' := by
  have hsv := Lib.hid (spSequenceValid_c xs v w hx)
  rcases Bool.eq_false_or_eq_true (svalid xs) with h1 | h1
  · have HZ : Hid (trZ trR xs = ((trS trR xs : Nat) : Int) ∧ trZ trW xs = ((trS trW xs : Nat) : Int)) := by
      unfold Hid trZ; rw [h1]; exact ⟨rfl, rfl⟩
    have HR := Lib.hid (fun k hk => trS_succ trR xs k hk)
    have HW := Lib.hid (fun k hk => trS_succ trW xs k hk)
    have HRL := Lib.hid (fun k => trS_le trR (fun x => (tr_le x).1) xs k)
    have HWL := Lib.hid (fun k => trS_le trW (fun x => (tr_le x).2) xs k)
    have HR0 := Lib.hid (trS_zero trR xs)
    have HW0 := Lib.hid (trS_zero trW xs)
    have HSL := Lib.hid (fun s W => l8Slot_c s W)
    have hlen := svalid_len h1
    have H1 := Lib.hid h1
    clear h1
    go_enter Try.func30, Try.ntmps30
    go_wp2_with fail
    refine hsv.out.mono ?_
    rintro e w1 ⟨rfl, hb1⟩
    rw [H1.out]
    have hs1 := hb1.size
    have hx1 := hx.below hb1
    obtain ⟨A, cap, rfl, hn, hc, hcell⟩ := hx1.open
    clear hx1
    go_wp2
    go_loopw [5, 6, 8, 14] (fun ra qa _ i wr => ∃ (k : Nat) (r q : Int), k ≤ xs.length ∧ i = .int .i64 k ∧ ra = .int .i64 r ∧ qa = .int .i64 q ∧ Hid (r = ((trS trR (xs.take k) : Nat) : Int) ∧ q = ((trS trW (xs.take k) : Nat) : Int)) ∧ Below w1.heap.size w1 wr) (fun _ _ _ i _ => xs.length - (RowKit.intOf i).toNat)
    case atStart => exact ⟨0, 0, 0, by omega, rfl, rfl, rfl, by rw [HR0.out, HW0.out]; exact ⟨rfl, rfl⟩, Below.refl _ _⟩
    case round =>
      obtain ⟨k, r, q, hk, rfl, rfl, rfl, hrq, hb⟩ := hrel
      have hbs := hb.size
      by_cases hlt : k < xs.length
      · obtain ⟨b, off, rfl, hbl, hc1, hc2, hc3⟩ := hcell k hlt
        have hd1 := (hb.cell (p := ⟨b, off + k * 3, none⟩) hbl).trans hc1
        have hd2 := (hb.cell (p := ⟨b, off + k * 3 + 1, none⟩) hbl).trans hc2
        have hd3 := (hb.cell (p := ⟨b, off + k * 3 + 2, none⟩) hbl).trans hc3
        clear hc1 hc2 hc3 hcell
        have hr1 := HRL.out k
        have hw1 := HWL.out k
        have hr0 : 0 ≤ r ∧ r ≤ 200 := by have := hrq.out.1; omega
        have hq0 : 0 ≤ q ∧ q ≤ 200 := by have := hrq.out.2; omega
        have er : Hid (((trS trR (xs.take (k + 1)) : Nat) : Int) = r + ((trR (xs[k].1, xs[k].2.1, xs[k].2.2) : Nat) : Int)) := by show _ = _; rw [HR.out k hlt, hrq.out.1]; push_cast; rfl
        have ew : Hid (((trS trW (xs.take (k + 1)) : Nat) : Int) = q + ((trW (xs[k].1, xs[k].2.1, xs[k].2.2) : Nat) : Int)) := by show _ = _; rw [HW.out k hlt, hrq.out.2]; push_cast; rfl
        rw [trR_b] at er
        rw [trW_b] at ew
        have HA := Lib.hid (fun W => HSL.out xs[k].2.1 W)
        have HB := Lib.hid (fun W => HSL.out xs[k].2.2 W)
        clear hr1 hw1
        generalize xs[k].1 = x1 at *
        generalize xs[k].2.1 = x2 at *
        generalize xs[k].2.2 = x3 at *
        generalize slB x2 = ba at *
        generalize slB x3 = bb at *
        have hb1 : Below w1.heap.size w1 (wr.alloc (.cells #[.int .i64 x1, .string x2, .string x3] 67)) := hb.alloc hbs _
        clear hb
        by_cases h1 : x1 = 1
        · subst h1
          rw [if_pos rfl] at er ew
          cases ba <;> cases bb
          all_goals
            go_wp2_with (first | (go_at_call 74; with_reducible refine (HA.out _).mono ?_; rintro e w' ⟨rfl, rfl⟩) | (go_at_call 74; with_reducible refine (HB.out _).mono ?_; rintro e w' ⟨rfl, rfl⟩))
            go_roundw
            case rel => exact ⟨k + 1, _, _, by omega, by go_num, rfl, rfl, ⟨by have h5 := er.out; simp only [bN_no, bN_yes] at h5; omega, by have h5 := ew.out; simp only [bN_no, bN_yes] at h5; omega⟩, hb1⟩
            case measure => simp [RowKit.intOf]; omega
        · have t1 : (x1 == 1) = false := by simpa using h1
          rw [if_neg h1] at er ew
          clear h1
          cases ba <;> cases bb
          all_goals
            go_wp2_with (first | (go_at_call 74; with_reducible refine (HA.out _).mono ?_; rintro e w' ⟨rfl, rfl⟩) | (go_at_call 74; with_reducible refine (HB.out _).mono ?_; rintro e w' ⟨rfl, rfl⟩))
            go_roundw
            case rel => exact ⟨k + 1, _, _, by omega, by go_num, rfl, rfl, ⟨by have h5 := er.out; simp only [bN_no, bN_yes] at h5; omega, by have h5 := ew.out; simp only [bN_no, bN_yes] at h5; omega⟩, hb1⟩
            case measure => simp [RowKit.intOf]; omega
      · have hk' : k = xs.length := by omega
        have HRQ : Hid (r = trZ trR xs ∧ q = trZ trW xs) := by
          have := hrq.out
          rw [hk', List.take_length] at this
          exact ⟨this.1.trans HZ.out.1.symm, this.2.trans HZ.out.2.symm⟩
        clear hcell hrq hk'
        go_wp2
        go_ret3
        exact ⟨by rw [← HRQ.out.1, ← HRQ.out.2, H1.out]; rfl, hb1.trans (hb.mono hs1)⟩
  · have HZ : Hid (trZ trR xs = 0 ∧ trZ trW xs = 0) := by
      unfold Hid trZ; rw [h1]; exact ⟨rfl, rfl⟩
    have H1 := Lib.hid h1
    clear h1
    go_enter Try.func30, Try.ntmps30
    go_wp2_with fail
    refine hsv.out.mono ?_
    rintro e w1 ⟨rfl, hb1⟩
    rw [H1.out]
    go_wp2
    go_ret3
    exact ⟨by rw [HZ.out.1, HZ.out.2, H1.out]; rfl, hb1⟩
end Go.Proofs.Ytogkodjlbdlgjaa
