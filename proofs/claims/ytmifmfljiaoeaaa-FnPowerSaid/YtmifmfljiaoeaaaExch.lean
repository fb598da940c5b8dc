import Derived.Test.YtmifmfljiaoeaaaUndone
import Derived.Test.YtmifmfljiaoeaaaLeaves
import Derived.Test.YtmifmfljiaoeaaaCompI
namespace Go.PM
open Go.RowKit
theorem undoM_len (xs : List Mv) : (undoM xs).length ≤ 9 := by
  unfold undoM
  split
  · exact lsF_len _ 9
  · simp
theorem undoM_yes {xs : List Mv} (h : exchB xs = true) : undoM xs = unL xs 9 := by rw [undoM, if_pos h, unL_inv (exchB_M h)]
theorem undoM_no {xs : List Mv} (h : exchB xs = false) : undoM xs = [] := by rw [undoM, h]; rfl
def lostB (xs : List Mv) : ByteArray := okS (mvalid xs) (leavesB xs)
theorem exchB_eq (xs : List Mv) : exchB xs = (mvalid xs && decide (lostB xs = emp)) := by
  unfold exchB lostB okS
  cases mvalid xs <;> simp
end Go.PM
namespace Go.Proofs.Ytmifmfljiaoeaaa
open Go.RowKit Go.PM

set_option maxRecDepth 100000 in
set_option maxHeartbeats 1000000 in
theorem spLostBy_c (xs : List Mv) (v : Value) (w : World) (hx : RdM w v xs) (hz : ∀ m ∈ xs, m.1.size ≤ 9223372036854775807 ∧ m.2.size ≤ 9223372036854775807) (hn' : xs.length ≤ 1048576) :
    Calls Try.prog 34 #[v] w fun e w' => e = .returned (.tuple #[.string (lostB xs), .bool (mvalid xs)]) ∧ Below w.heap.size w w' := by
  have HO : Hid (lostB xs = if mvalid xs then leavesB xs else ⟨#[]⟩) := rfl
  have HV := Lib.hid (spMovesValid_c xs v w hx hz hn')
  rcases Bool.eq_false_or_eq_true (mvalid xs) with h1 | h1
  · have HN : Hid (∀ q, q < 9 → (ByteArray.mk #[97, 98, 99, 100, 101, 102, 65, 66, 67]).extract q (q+1) = nm q) := by
      show ∀ q, _
      intro q hq
      match q, hq with
      | 0, _ | 1, _ | 2, _ | 3, _ | 4, _ | 5, _ | 6, _ | 7, _ | 8, _ => decide +kernel
    have HALL := Lib.hid (show namesS (lostH xs) 9 = leavesB xs from lost_leaf (xs := xs) (by simpa [mvalid] using h1))
    have HX := Lib.hid (fun W (hW : Below w.heap.size w W) => hx.below hW)
    have HSS := Lib.hid (fun W (hW : RdM W v xs) a => l1Source_c xs v a W hW)
    have HRR := Lib.hid (fun W (hW : RdM W v xs) a => l1Readers_c xs v a W hW)
    have H1 := Lib.hid h1
    clear hx hz h1
    go_enter Try.func34, Try.ntmps34
    go_wp2_with fail
    refine HV.out.mono ?_
    rintro e w1 ⟨he, hb1⟩
    rw [H1.out] at he
    subst he
    have hs1 := hb1.size
    go_wp2
    go_loopw [4, 10] (fun o i wr => ∃ k : Nat, k ≤ 9 ∧ i = .int .i64 k ∧ o = .string (namesS (lostH xs) k) ∧ Below w.heap.size w wr) (fun _ i _ => 9 - (intOf i).toNat)
    case atStart => exact ⟨0, by omega, rfl, rfl, hb1⟩
    case round =>
      obtain ⟨k, hk, rfl, rfl, hb⟩ := hrel
      have hbs := hb.size
      by_cases hlt : k < 9
      · have hex := HN.out k hlt
        have hsz := namesS_size (lostH xs) k
        have HY := Lib.hid (namesS_yes (lostH xs) k)
        have HZ := Lib.hid (namesS_no (lostH xs) k)
        have HH := Lib.hid (show lostH xs k = (decide (srcM xs (nm k) ≠ nm k) && decide (namesW (rsH xs (nm k)) = emp)) from rfl)
        have HC := Lib.hid (HSS.out wr (HX.out wr hb) (nm k))
        have HRK := Lib.hid (fun W hW => HRR.out W (HX.out W hW) (nm k))
        generalize namesS (lostH xs) k = s0 at *
        generalize namesW (rsH xs (nm k)) = rr at *
        generalize srcM xs (nm k) = sk at *
        have hq1 : (nm k).size = 1 := rfl
        generalize nm k = q at *
        rcases Bool.eq_false_or_eq_true (sk.toList == q.toList) with hd | hd
        · have HD := Lib.hid hd
          go_wp2_with fail
          refine HC.out.mono ?_
          rintro e w2 ⟨rfl, hb2⟩
          have hbw := hb.trans (hb2.mono hbs)
          clear hb2 hb
          go_wp2
          go_roundw
          case rel =>
            have h := HD.out
            rw [beq_str, decide_eq_true_eq] at h
            exact ⟨k + 1, by omega, by go_num, by rw [HZ.out (by rw [HH.out, h]; simp)], hbw⟩
          case measure => simp [intOf]; omega
        · have HD := Lib.hid hd
          go_wp2_with fail
          refine HC.out.mono ?_
          rintro e w2 ⟨rfl, hb2⟩
          have hbw := hb.trans (hb2.mono hbs)
          have hbws := hbw.size
          have HR2 := Lib.hid (HRK.out w2 hbw)
          clear hb2 hb
          rcases Bool.eq_false_or_eq_true rr.toList.isEmpty with he | he
          all_goals
            have HE := Lib.hid he
            go_wp2_with (go_at_call 70; refine HR2.out.mono ?_; rintro e w3 ⟨rfl, hb3⟩; refine held ?_)
            unfold Held
            have hbw3 := hbw.trans (hb3.mono hbws)
            clear hb3 hbw
            go_wp2
            go_roundw
          case rel =>
            have h := HD.out
            rw [beq_str, decide_eq_false_iff_not] at h
            have h2 := HE.out
            rw [emp_iff, decide_eq_true_eq] at h2
            exact ⟨k + 1, by omega, by go_num, by rw [← HY.out (by rw [HH.out]; simp [h, h2])], hbw3⟩
          case measure => simp [intOf]; omega
          case rel =>
            have h2 := HE.out
            rw [emp_iff, decide_eq_false_iff_not] at h2
            exact ⟨k + 1, by omega, by go_num, by rw [HZ.out (by rw [HH.out]; simp [h2])], hbw3⟩
          case measure => simp [intOf]; omega
      · have hk9 : k = 9 := by omega
        subst hk9
        rw [HALL.out]
        go_wp2
        go_ret2
        exact ⟨by rw [H1.out, HO.out, H1.out]; rfl, hb⟩
  · go_enter Try.func34, Try.ntmps34
    go_wp2_with fail
    refine HV.out.mono ?_
    rintro e w1 ⟨rfl, hb1⟩
    go_wp2
    go_ret2
    exact ⟨by rw [HO.out, h1]; rfl, hb1⟩
theorem spIsExchange_c (xs : List Mv) (v : Value) (w : World) (hx : RdM w v xs) (hz : ∀ m ∈ xs, m.1.size ≤ 9223372036854775807 ∧ m.2.size ≤ 9223372036854775807) (hn' : xs.length ≤ 1048576) :
    Calls Try.prog 37 #[v] w fun e w' => e = .returned (.bool (exchB xs)) ∧ Below w.heap.size w w' := by
  have HO := Lib.hid (exchB_eq xs)
  have HL := Lib.hid (spLostBy_c xs v w hx hz hn')
  clear hx hz
  rcases Bool.eq_false_or_eq_true (mvalid xs) with h1 | h1
  · generalize lostB xs = lb at *
    rcases Bool.eq_false_or_eq_true lb.toList.isEmpty with he | he
    all_goals
      have HE := Lib.hid he
      go_enter Try.func37, Try.ntmps37
      go_wp2_with fail
      refine HL.out.mono ?_
      rintro e w1 ⟨rfl, hb1⟩
      go_wp2
      go_ret
      refine ⟨?_, hb1⟩
      rw [HO.out, h1]
    · have h2 := HE.out
      rw [emp_iff, decide_eq_true_eq] at h2
      rw [decide_eq_true h2]; rfl
    · have h2 := HE.out
      rw [emp_iff, decide_eq_false_iff_not] at h2
      rw [decide_eq_false h2]; rfl
  · go_enter Try.func37, Try.ntmps37
    go_wp2_with fail
    refine HL.out.mono ?_
    rintro e w1 ⟨rfl, hb1⟩
    go_wp2
    go_ret
    exact ⟨by rw [HO.out, h1]; rfl, hb1⟩
set_option maxRecDepth 100000 in
set_option maxHeartbeats 1000000 in
theorem spUndoMoves_c (xs : List Mv) (v : Value) (w : World) (hx : RdM w v xs) (hz : ∀ m ∈ xs, m.1.size ≤ 9223372036854775807 ∧ m.2.size ≤ 9223372036854775807) (hn' : xs.length ≤ 1048576) :
    Calls Try.prog 31 #[v] w fun e w' => ∃ v', e = .returned (.tuple #[v', .bool (exchB xs)]) ∧ w'.ownsRow w.heap.size 60 2 v' (undoM xs).length (mcells (undoM xs)) ∧ Below w.heap.size w w' := by
  have hE := World.ownsRow_lit (e := 60) (base := w.heap.size) (size := 2) w #[] 0 (Nat.le_refl _) (Nat.zero_le _) rfl
  have HV := Lib.hid (fun W hW => spIsExchange_c xs v W hW hz hn')
  have HX := Lib.hid (fun W (hW : Below w.heap.size w W) => hx.below hW)
  have HRR := Lib.hid (fun W (hW : RdM W v xs) a => l1Readers_c xs v a W hW)
  clear hx hz
  rcases Bool.eq_false_or_eq_true (exchB xs) with h1 | h1
  · have HN : Hid (∀ q, q < 9 → (ByteArray.mk #[97, 98, 99, 100, 101, 102, 65, 66, 67]).extract q (q+1) = nm q) := by
      show ∀ q, _
      intro q hq
      match q, hq with
      | 0, _ | 1, _ | 2, _ | 3, _ | 4, _ | 5, _ | 6, _ | 7, _ | 8, _ => decide +kernel
    have HALL := Lib.hid (undoM_yes h1)
    have H1 := Lib.hid h1
    clear h1
    go_enter Try.func31, Try.ntmps31
    have hb0 : Below w.heap.size w (w.alloc (.cells #[] 60)) := (Below.refl _ _).alloc (Nat.le_refl _) _
    have hx0 := HX.out _ hb0
    go_wp2_with fail
    refine (HV.out _ hx0).mono ?_
    rintro e w1 ⟨he, hb1⟩
    rw [H1.out] at he
    subst he
    have hbw1 := hb0.trans (hb1.mono hb0.size)
    have hE1 := own_keep hE hb1
    clear hE hb1 hx0 hb0
    go_wp2
    go_loopw [4, 13] (fun o i wr => ∃ k : Nat, k ≤ 9 ∧ i = .int .i64 k ∧ wr.ownsRow w.heap.size 60 2 o (unL xs k).length (mcells (unL xs k)) ∧ Below w.heap.size w wr) (fun _ i _ => 9 - (intOf i).toNat)
    case atStart => exact ⟨0, by omega, rfl, hE1, hbw1⟩
    case round =>
      obtain ⟨k, hk, rfl, ho, hb⟩ := hrel
      have hbs := hb.size
      by_cases hlt : k < 9
      · have hex := HN.out k hlt
        have hle := unL_len xs k
        have HY := Lib.hid (unL_yes xs k)
        have HZ := Lib.hid (unL_no xs k)
        have HH := Lib.hid (show unH xs k = decide (namesW (rsH xs (nm k)) ≠ emp) from rfl)
        have HC := Lib.hid (HRR.out wr (HX.out wr hb) (nm k))
        generalize namesW (rsH xs (nm k)) = rr at *
        generalize nm k = q at *
        rcases Bool.eq_false_or_eq_true rr.toList.isEmpty with he | he
        · have HE := Lib.hid he
          go_wp2_with fail
          refine HC.out.mono ?_
          rintro e w2 ⟨rfl, hb2⟩
          have hbw := hb.trans (hb2.mono hbs)
          have ho2 := own_keep ho hb2
          clear hb2 hb ho
          go_wp2
          go_roundw
          case rel =>
            have h := HE.out
            rw [emp_iff, decide_eq_true_eq] at h
            exact ⟨k + 1, by omega, by go_num, by rw [HZ.out (by rw [HH.out, h]; simp)]; exact ho2, hbw⟩
          case measure => simp [intOf]; omega
        · have HE := Lib.hid he
          go_wp2_with fail
          refine HC.out.mono ?_
          rintro e w2 ⟨rfl, hb2⟩
          have hbw := hb.trans (hb2.mono hbs)
          have hbws := hbw.size
          have ho2 := own_keep ho hb2
          clear hb2 hb ho
          have hnw := two_new w2 (.string q) (.string rr) 60
          go_wp2_with (at_builtin; refine held ?_)
          unfold Held
          refine app_mv rfl (.tmp 25) (.tmp 29) rfl w.heap.size u4 (unL xs k) (q, rr) ⟨w2.heap.size, 0, none⟩ 1 (by rfl) (by rfl) (own_keep ho2 ((Below.refl _ _).alloc (Nat.le_refl _) _)) hnw (by omega) (by simp; omega) ?_
          intro v' w3 hown3 hgrow3
          have hb3 := below_grown hgrow3 (B := w.heap.size) (by simp; omega) (own_block_ge ho2)
          have hbw3 := Below.trans (hbw.alloc hbws (.cells #[.string q, .string rr] 60)) hb3
          clear hb3 hgrow3 hnw
          go_wp2
          go_roundw
          case rel =>
            have h := HE.out
            rw [emp_iff, decide_eq_false_iff_not] at h
            refine ⟨k + 1, by omega, by go_num, ?_, hbw3⟩
            rw [HY.out (by rw [HH.out]; simp [h])]; exact hown3
          case measure => simp [intOf]; omega
      · have hk9 : k = 9 := by omega
        subst hk9
        go_wp2
        go_ret2
        exact ⟨_, by rw [H1.out]; rfl, by rw [HALL.out]; exact ho, hb⟩
  · have HNO := Lib.hid (undoM_no h1)
    have H1 := Lib.hid h1
    clear h1
    go_enter Try.func31, Try.ntmps31
    have hb0 : Below w.heap.size w (w.alloc (.cells #[] 60)) := (Below.refl _ _).alloc (Nat.le_refl _) _
    have hx0 := HX.out _ hb0
    go_wp2_with fail
    refine (HV.out _ hx0).mono ?_
    rintro e w1 ⟨he, hb1⟩
    rw [H1.out] at he
    subst he
    have hbw1 := hb0.trans (hb1.mono hb0.size)
    have hE1 := own_keep hE hb1
    clear hE hb1 hx0 hb0
    go_wp2
    go_ret2
    exact ⟨_, by rw [H1.out]; rfl, by rw [HNO.out]; exact hE1, hbw1⟩
end Go.Proofs.Ytmifmfljiaoeaaa
