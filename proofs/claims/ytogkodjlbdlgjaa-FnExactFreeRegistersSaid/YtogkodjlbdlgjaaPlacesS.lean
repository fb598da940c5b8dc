import Derived.Test.YtogkodjlbdlgjaaPlaces
import Derived.Test.YtogkodjlbdlgjaaReaders
import Derived.BigQuiet
namespace Go.Proofs.Ytogkodjlbdlgjaa
open Go.RowKit Go.PM

set_option maxRecDepth 100000 in
set_option maxHeartbeats 2000000 in
theorem spPlacesIn_c (xs : List Mv) (v : Value) (w : World) (hx : RdM w v xs) (hz : ∀ m ∈ xs, m.1.size ≤ 9223372036854775807 ∧ m.2.size ≤ 9223372036854775807) (hn' : xs.length ≤ 1048576) :
    Calls Try.prog 115 #[v] w fun e w' => e = .returned (.tuple #[.string (okS (mvalid xs) (plcs xs)), .bool (mvalid xs)]) ∧ Below w.heap.size w w' := by
  have HO : Hid (∀ b s, okS b s = if b then s else ⟨#[]⟩) := fun _ _ => rfl
  have HN : Hid (∀ q, q < 9 → (ByteArray.mk #[97, 98, 99, 100, 101, 102, 65, 66, 67]).extract q (q+1) = nm q) := by
    show ∀ q, _
    intro q hq
    match q, hq with
    | 0, _ | 1, _ | 2, _ | 3, _ | 4, _ | 5, _ | 6, _ | 7, _ | 8, _ => decide +kernel
  by_cases h1 : MV xs
  · have hm : mvalid xs = true := by simpa [mvalid] using h1
    have HF := Lib.hid (fun p => inM_full h1 p)
    have HIS := Lib.hid (fun p k hk => inM_succ xs p k hk)
    have HMM := Lib.hid hm
    clear h1 hm
    go_enter Try.func115, Try.ntmps115
    go_wp2_with fail
    refine (spMovesValid_c xs v _ hx hz hn').mono ?_
    rintro e w1 ⟨rfl, hb1⟩
    rw [HMM.out]
    have hs1 := hb1.size
    have hx1 := hx.below hb1
    obtain ⟨A, cap, rfl, hn, hc, hcell⟩ := hx1.open
    clear hx1
    go_wp2
    go_loopw [4, 12] (fun o i wr => ∃ (k : Nat), k ≤ 9 ∧ i = .int .i64 k ∧ o = .string (namesS (piH xs) k) ∧ Below w1.heap.size w1 wr) (fun _ i _ => 9 - (intOf i).toNat)
    case atStart => exact ⟨0, by omega, rfl, rfl, Below.refl _ _⟩
    case round =>
      obtain ⟨k, hk, rfl, rfl, hb⟩ := hrel
      have hbs := hb.size
      by_cases hlt : k < 9
      · have hex := HN.out k hlt
        have hsz := namesS_size (piH xs) k
        have hns : (nm k).size = 1 := rfl
        have HY := Lib.hid (namesS_yes (piH xs) k)
        have HZ := Lib.hid (namesS_no (piH xs) k)
        have HFk := Lib.hid (HF.out k)
        have HISk := Lib.hid (HIS.out k)
        have HI0 := Lib.hid (inM_zero xs k)
        generalize namesS (piH xs) k = tk at *
        go_wp2
        go_loopw [6, 17] (fun o i wr => ∃ (j : Nat), j ≤ xs.length ∧ i = .int .i64 j ∧ o = .bool (inM xs k j) ∧ Below w1.heap.size w1 wr) (fun _ i _ => xs.length - (intOf i).toNat)
        case atStart => exact ⟨0, by omega, rfl, by rw [HI0.out], hb⟩
        case round =>
          obtain ⟨j, hj, rfl, rfl, hb⟩ := hrel
          have hbs := hb.size
          by_cases hlt2 : j < xs.length
          · obtain ⟨b, off, rfl, hbl, hc1, hc2⟩ := hcell j hlt2
            have hd1 := (hb.cell (p := ⟨b, off + j * 2, none⟩) hbl).trans hc1
            have hd2 := (hb.cell (p := ⟨b, off + j * 2 + 1, none⟩) hbl).trans hc2
            clear hc1 hc2 hcell
            have hst := HISk.out j hlt2
            generalize xs[j].1 = x1 at *
            generalize xs[j].2 = x2 at *
            have HS := Lib.hid hst
            clear hst
            have hxa : ∀ x : Ext (wr.heap.size + 1) (wr.alloc (.cells #[.string x1, .string x2] 65)), x.val.cell? ⟨wr.heap.size, 0, none⟩ = some (.string x1) := fun x =>
              (x.property.cell (p := ⟨wr.heap.size, 0, none⟩) (by simp)).trans ((At.new wr 65 #[.string x1, .string x2]).cell 0)
            have hxb : ∀ x : Ext (wr.heap.size + 1) (wr.alloc (.cells #[.string x1, .string x2] 65)), x.val.cell? ⟨wr.heap.size, 1, none⟩ = some (.string x2) := fun x =>
              (x.property.cell (p := ⟨wr.heap.size, 1, none⟩) (by simp)).trans ((At.new wr 65 #[.string x1, .string x2]).cell 1)
            generalize inM xs k j = rj at *
            rcases rj with _ | _
            · rcases Bool.eq_false_or_eq_true (x1.toList == (nm k).toList) with hd | hd
              · have HD : Hid (x1 = nm k) := by rw [beq_str, decide_eq_true_eq] at hd; exact hd
                go_wp2
                refine wp_region_ext (wr.heap.size + 1) (by kernel_rfl) (by kernel_rfl) ?_
                repeat (go_big_quiet_step (fail))
                refine wpQuiet_nil ?_
                intro w2 hw'
                obtain ⟨xw, hxw⟩ := hw'
                have hb2 := xw.property
                rw [← hxw] at hb2
                clear hxw xw hxa hxb hd1 hd2
                have hb3 : Below w1.heap.size w1 w2 := (hb.alloc hbs _).trans (hb2.mono (by omega))
                go_wp2
                go_roundw
                case rel =>
                  refine ⟨j + 1, by omega, by go_num, ?_, hb3⟩
                  rw [HS.out]; rw [decide_eq_true HD.out]; rfl
                case measure => simp [intOf]; omega
              · have HD : Hid (x1 ≠ nm k) := by rw [beq_str, decide_eq_false_iff_not] at hd; exact hd
                have HE : Hid ((x2.toList == (nm k).toList) = decide (x2 = nm k)) := beq_str _ _
                go_wp2
                refine wp_region_ext (wr.heap.size + 1) (by kernel_rfl) (by kernel_rfl) ?_
                repeat (go_big_quiet_step (fail))
                refine wpQuiet_nil ?_
                intro w2 hw'
                obtain ⟨xw, hxw⟩ := hw'
                have hb2 := xw.property
                rw [← hxw] at hb2
                clear hxw xw hxa hxb hd1 hd2
                have hb3 : Below w1.heap.size w1 w2 := (hb.alloc hbs _).trans (hb2.mono (by omega))
                go_wp2
                go_roundw
                case rel =>
                  refine ⟨j + 1, by omega, by go_num, ?_, hb3⟩
                  rw [HS.out]; rw [decide_eq_false HD.out, HE.out]; simp
                case measure => simp [intOf]; omega
            · go_wp2
              refine wp_region_ext (wr.heap.size + 1) (by kernel_rfl) (by kernel_rfl) ?_
              repeat (go_big_quiet_step (fail))
              refine wpQuiet_nil ?_
              intro w2 hw'
              obtain ⟨xw, hxw⟩ := hw'
              have hb2 := xw.property
              rw [← hxw] at hb2
              clear hxw xw hxa hxb hd1 hd2
              have hb3 : Below w1.heap.size w1 w2 := (hb.alloc hbs _).trans (hb2.mono (by omega))
              go_wp2
              go_roundw
              case rel =>
                refine ⟨j + 1, by omega, by go_num, ?_, hb3⟩
                rw [HS.out]; simp
              case measure => simp [intOf]; omega
          · have hj' : j = xs.length := by omega
            rw [hj', HFk.out]
            generalize piH xs k = rk at *
            rcases rk with _ | _
            · go_wp2
              go_roundw
              case rel => exact ⟨k + 1, by omega, by go_num, by rw [HZ.out rfl], hb⟩
              case measure => simp [intOf]; omega
            · go_wp2
              go_roundw
              case rel => exact ⟨k + 1, by omega, by go_num, by rw [HY.out rfl], hb⟩
              case measure => simp [intOf]; omega
      · have hk9 : k = 9 := by omega
        subst hk9
        go_wp2
        go_ret2
        exact ⟨by rw [HMM.out, HO.out]; rfl, hb1.trans (hb.mono hs1)⟩
  · have hm : mvalid xs = false := by simpa [mvalid] using h1
    go_enter Try.func115, Try.ntmps115
    go_wp2_with fail
    refine (spMovesValid_c xs v _ hx hz hn').mono ?_
    rintro e w1 ⟨rfl, hb1⟩
    rw [hm]
    go_wp2
    go_ret2
    exact ⟨by rw [hm, HO.out]; rfl, hb1⟩
end Go.Proofs.Ytogkodjlbdlgjaa
