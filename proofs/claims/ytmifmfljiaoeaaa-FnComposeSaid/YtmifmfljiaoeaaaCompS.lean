import Derived.Test.YtmifmfljiaoeaaaComp
import Derived.Test.YtmifmfljiaoeaaaBusy
import Derived.Test.YtmifmfljiaoeaaaUndoP
namespace Go.PM
open Go.RowKit
theorem compM_len (xs ys : List Mv) : (compM xs ys).length ≤ 9 := by
  unfold compM
  split
  · exact lsF_len _ 9
  · simp
theorem compM_yes {xs ys : List Mv} (h1 : mvalid xs = true) (h2 : mvalid ys = true) : compM xs ys = lsF (cmpM xs ys) 9 := by rw [compM, h1, h2]; rfl
theorem compM_no {xs ys : List Mv} (h : (mvalid xs && mvalid ys) = false) : compM xs ys = [] := by rw [compM, h]; rfl
def pwL (xs : List Mv) (n : Nat) : List Mv := lsF (pwF (fun q => srcM xs (nm q)) n) 9
theorem pwL_zero (xs : List Mv) : pwL xs 0 = [] := lsF_nm
theorem pwL_succ (xs : List Mv) (n : Nat) : lsF (cmpM (pwL xs n) xs) 9 = pwL xs (n + 1) := cmpM_pw xs n
theorem pwL_len (xs : List Mv) (n : Nat) : (pwL xs n).length ≤ 9 := lsF_len _ 9
def powOk (xs : List Mv) (n : Int) : Bool := mvalid xs && (decide (0 ≤ n) && decide (n ≤ 60))
theorem powM_yes {xs : List Mv} {n : Int} (h : powOk xs n = true) : powM xs n = pwL xs n.toNat := by
  unfold powOk at h; rw [powM, h]; rfl
theorem powM_no {xs : List Mv} {n : Int} (h : powOk xs n = false) : powM xs n = [] := by
  unfold powOk at h; rw [powM, h]; rfl
theorem powM_len (xs : List Mv) (n : Int) : (powM xs n).length ≤ 9 := by
  unfold powM
  split
  · exact lsF_len _ 9
  · simp
end Go.PM
namespace Go.Proofs.Ytmifmfljiaoeaaa
open Go.RowKit Go.PM

set_option maxRecDepth 100000 in
set_option maxHeartbeats 1000000 in
theorem l4Compose_c (xs ys : List Mv) (v u : Value) (w : World) (hx : RdM w v xs) (hy : RdM w u ys) :
    Calls Try.prog 52 #[v, u] w fun e w' => ∃ v', e = .returned v' ∧ w'.ownsRow w.heap.size 60 2 v' (lsF (cmpM xs ys) 9).length (mcells (lsF (cmpM xs ys) 9)) ∧ Below w.heap.size w w' := by
  have HN : Hid (∀ q, q < 9 → (ByteArray.mk #[97, 98, 99, 100, 101, 102, 65, 66, 67]).extract q (q+1) = nm q) := by
    show ∀ q, _
    intro q hq
    match q, hq with
    | 0, _ | 1, _ | 2, _ | 3, _ | 4, _ | 5, _ | 6, _ | 7, _ | 8, _ => decide +kernel
  have HSY := Lib.hid (fun W (hW : RdM W u ys) (a : ByteArray) => l1Source_c ys u a W hW)
  have HSX := Lib.hid (fun W (hW : RdM W v xs) (a : ByteArray) => l1Source_c xs v a W hW)
  have HX := Lib.hid (fun W (hW : Below w.heap.size w W) => hx.below hW)
  have HYB := Lib.hid (fun W (hW : Below w.heap.size w W) => hy.below hW)
  have hE := World.ownsRow_lit (e := 60) (base := w.heap.size) (size := 2) w #[] 0 (Nat.le_refl _) (Nat.zero_le _) rfl
  clear hx hy
  go_enter Try.func52, Try.ntmps52
  go_wp2
  go_loopw [5, 10] (fun o i wr => ∃ (k : Nat), k ≤ 9 ∧ i = .int .i64 k ∧ wr.ownsRow w.heap.size 60 2 o (lsF (cmpM xs ys) k).length (mcells (lsF (cmpM xs ys) k)) ∧ Below w.heap.size w wr) (fun _ i _ => 9 - (intOf i).toNat)
  case atStart => exact ⟨0, by omega, rfl, hE, by (repeat' (first | (with_reducible exact Below.refl _ _) | (with_reducible assumption) | (with_reducible refine Below.alloc ?_ ?_ _) | (with_reducible refine Below.drew ?_) | (with_reducible refine Below.setCell ?_ ?_ _) | (with_reducible exact Nat.le_refl _) | omega | ((repeat (first | rewrite [World.size_alloc] | rewrite [World.size_setCell] | rewrite [World.size_drew])); omega) | (simp; omega) | (simp; done)))⟩
  case round =>
    obtain ⟨k, hk, rfl, ho, hb⟩ := hrel
    have hbs := hb.size
    by_cases hlt : k < 9
    · have hex := HN.out k hlt
      have hyr := HYB.out wr hb
      have HY := Lib.hid (lsF_yes (cmpM xs ys) k)
      have HZ := Lib.hid (lsF_no (cmpM xs ys) k)
      have hle := lsF_len (cmpM xs ys) k
      have HH := Lib.hid (show lsH (cmpM xs ys) k = decide (cmpM xs ys k ≠ nm k) from rfl)
      have HCM := Lib.hid (cmpM_eq xs ys k)
      have hcall := HSY.out wr hyr (nm k)
      have HC := Lib.hid hcall
      clear hcall hyr
      generalize hsk : srcM ys (nm k) = sk at *
      generalize cmpM xs ys k = cm at *
      generalize nm k = q at *
      go_wp2_with fail
      refine HC.out.mono ?_
      rintro e w2 ⟨rfl, hb2⟩
      have hb2s := hb2.size
      have ho2 := own_keep ho hb2
      have hbw := hb.trans (hb2.mono hbs)
      have hbws := hbw.size
      have hxr := HX.out w2 hbw
      rcases Bool.eq_false_or_eq_true (isP sk) with hp | hp
      · have hcm : cm = srcM xs sk := by rw [HCM.out, if_pos hp]
        have hcall := HSX.out w2 hxr sk
        rw [← hcm] at hcall
        have HC2 := Lib.hid hcall
        clear hcm hcall hxr hb2 hb ho
        rcases Bool.eq_false_or_eq_true (cm.toList == q.toList) with hd | hd
        · have HD := Lib.hid hd
          go_wp2_with (first | (go_at_call 86; refine (l1Place_c _ _).mono ?_; rintro e w' ⟨rfl, rfl⟩; rw [hp]) | (go_at_call 74; refine HC2.out.mono ?_; rintro e w4 ⟨rfl, hb4⟩; refine held ?_))
          unfold Held
          have ho4 := own_keep ho2 hb4
          have hbw4 := hbw.trans (hb4.mono hbws)
          clear ho2 hb4
          go_wp2
          go_roundw
          case rel =>
            have h := HD.out
            rw [beq_str, decide_eq_true_eq] at h
            refine ⟨k + 1, by omega, by go_num, ?_, by (repeat' (first | (with_reducible exact Below.refl _ _) | (with_reducible assumption) | (with_reducible refine Below.alloc ?_ ?_ _) | (with_reducible refine Below.drew ?_) | (with_reducible refine Below.setCell ?_ ?_ _) | (with_reducible exact Nat.le_refl _) | omega | ((repeat (first | rewrite [World.size_alloc] | rewrite [World.size_setCell] | rewrite [World.size_drew])); omega) | (simp; omega) | (simp; done)))⟩
            rw [HZ.out (by rw [HH.out, h]; simp)]; exact ho4
          case measure => simp [intOf]; omega
        · have HD := Lib.hid hd
          go_wp2_with (first | (go_at_call 86; refine (l1Place_c _ _).mono ?_; rintro e w' ⟨rfl, rfl⟩; rw [hp]) | (go_at_call 74; refine HC2.out.mono ?_; rintro e w4 ⟨rfl, hb4⟩; refine held ?_))
          unfold Held
          have hb4s := hb4.size
          have ho4 := own_keep ho2 hb4
          have hbw4 := hbw.trans (hb4.mono hbws)
          have hbw4s := hbw4.size
          have hnw := two_new w4 (.string q) (.string cm) 60
          clear ho2 hb4
          go_wp2_with (at_builtin; refine held ?_)
          unfold Held
          refine app_mv rfl (.tmp 28) (.tmp 32) rfl w.heap.size u5 (lsF (cmpM xs ys) k) (q, cm) ⟨w4.heap.size, 0, none⟩ 1 (by rfl) (by rfl) (own_keep ho4 ((Below.refl _ _).alloc (Nat.le_refl _) _)) hnw (by omega) (by simp; omega) ?_
          intro v' w3 hown3 hgrow3
          have hb3 := below_grown hgrow3 (B := w.heap.size) (by simp; omega) (own_block_ge ho4)
          have hbw3 := Below.trans (hbw4.alloc hbw4s (.cells #[.string q, .string cm] 60)) hb3
          clear hb3 hgrow3 hnw
          go_wp2
          go_roundw
          case rel =>
            have h := HD.out
            rw [beq_str, decide_eq_false_iff_not] at h
            refine ⟨k + 1, by omega, by go_num, ?_, hbw3⟩
            rw [HY.out (by rw [HH.out]; simp [h])]; exact hown3
          case measure => simp [intOf]; omega
      · have hcm : cm = sk := by rw [HCM.out, if_neg (by rw [hp]; decide)]
        have HCC := Lib.hid hcm
        clear hcm hxr hb2 hb ho
        rcases Bool.eq_false_or_eq_true (sk.toList == q.toList) with hd | hd
        · have HD := Lib.hid hd
          go_wp2_with (first | (go_at_call 86; refine (l1Place_c _ _).mono ?_; rintro e w' ⟨rfl, rfl⟩; rw [hp]))
          go_roundw
          case rel =>
            have h := HD.out
            rw [beq_str, decide_eq_true_eq] at h
            refine ⟨k + 1, by omega, by go_num, ?_, by (repeat' (first | (with_reducible exact Below.refl _ _) | (with_reducible assumption) | (with_reducible refine Below.alloc ?_ ?_ _) | (with_reducible refine Below.drew ?_) | (with_reducible refine Below.setCell ?_ ?_ _) | (with_reducible exact Nat.le_refl _) | omega | ((repeat (first | rewrite [World.size_alloc] | rewrite [World.size_setCell] | rewrite [World.size_drew])); omega) | (simp; omega) | (simp; done)))⟩
            rw [HZ.out (by rw [HH.out, HCC.out, h]; simp)]; exact ho2
          case measure => simp [intOf]; omega
        · have HD := Lib.hid hd
          have hnw := two_new w2 (.string q) (.string sk) 60
          go_wp2_with (first | (go_at_call 86; refine (l1Place_c _ _).mono ?_; rintro e w' ⟨rfl, rfl⟩; rw [hp]) | (at_builtin; refine held ?_))
          unfold Held
          refine app_mv rfl (.tmp 28) (.tmp 32) rfl w.heap.size u5 (lsF (cmpM xs ys) k) (q, sk) ⟨w2.heap.size, 0, none⟩ 1 (by rfl) (by rfl) (own_keep ho2 ((Below.refl _ _).alloc (Nat.le_refl _) _)) hnw (by omega) (by simp; omega) ?_
          intro v' w3 hown3 hgrow3
          have hb3 := below_grown hgrow3 (B := w.heap.size) (by simp; omega) (own_block_ge ho2)
          have hbw3 := Below.trans (hbw.alloc hbws (.cells #[.string q, .string sk] 60)) hb3
          clear hb3 hgrow3 hnw
          go_wp2
          go_roundw
          case rel =>
            have h := HD.out
            rw [beq_str, decide_eq_false_iff_not] at h
            refine ⟨k + 1, by omega, by go_num, ?_, hbw3⟩
            rw [HY.out (by rw [HH.out, HCC.out]; simp [h]), HCC.out]; exact hown3
          case measure => simp [intOf]; omega
    · have hk9 : k = 9 := by omega
      subst hk9
      go_wp2
      go_ret
      exact ⟨_, rfl, ho, hb⟩

set_option maxRecDepth 100000 in
theorem l4Power_c (xs : List Mv) (v : Value) (n : Nat) (hn : n ≤ 60) (w : World) (hx : RdM w v xs) :
    Calls Try.prog 60 #[v, .int .i64 n] w fun e w' => ∃ v', e = .returned v' ∧ w'.ownsRow w.heap.size 60 2 v' (pwL xs n).length (mcells (pwL xs n)) ∧ Below w.heap.size w w' := by
  have HX := Lib.hid (fun W (hW : Below w.heap.size w W) => hx.below hW)
  have hE := World.ownsRow_lit (e := 60) (base := w.heap.size) (size := 2) w #[] 0 (Nat.le_refl _) (Nat.zero_le _) rfl
  have HZ := Lib.hid (pwL_zero xs)
  have HS := Lib.hid (pwL_succ xs)
  clear hx
  go_enter Try.func60, Try.ntmps60
  go_wp2
  go_loopw [5, 8] (fun o i wr => ∃ (k : Nat), k ≤ n ∧ i = .int .i64 k ∧ wr.ownsRow w.heap.size 60 2 o (pwL xs k).length (mcells (pwL xs k)) ∧ Below w.heap.size w wr) (fun _ i _ => n - (intOf i).toNat)
  case atStart => exact ⟨0, by omega, rfl, by rw [HZ.out]; exact hE, by (repeat' (first | (with_reducible exact Below.refl _ _) | (with_reducible assumption) | (with_reducible refine Below.alloc ?_ ?_ _) | (with_reducible refine Below.drew ?_) | (with_reducible refine Below.setCell ?_ ?_ _) | (with_reducible exact Nat.le_refl _) | omega | ((repeat (first | rewrite [World.size_alloc] | rewrite [World.size_setCell] | rewrite [World.size_drew])); omega) | (simp; omega) | (simp; done)))⟩
  case round =>
    obtain ⟨k, hk, rfl, ho, hb⟩ := hrel
    have hbs := hb.size
    by_cases hlt : k < n
    · have hlt' : (k : Int) < (n : Int) := by omega
      have hc := l4Compose_c (pwL xs k) xs u5 v wr (Rd.of_own ho) (HX.out wr hb)
      rw [HS.out] at hc
      have HC := Lib.hid hc
      clear hc
      go_wp2_with fail
      refine HC.out.mono ?_
      rintro e w2 ⟨v', rfl, ho2, hb2⟩
      have hbw := hb.trans (hb2.mono hbs)
      have ho3 := own_more ho2 hbs
      go_wp2
      go_roundw
      case rel => exact ⟨k + 1, by omega, by go_num, ho3, hbw⟩
      case measure => simp [intOf]; omega
    · have hk9 : k = n := by omega
      subst hk9
      go_wp2
      go_ret
      exact ⟨_, rfl, ho, hb⟩
set_option maxRecDepth 100000 in
theorem spComposeMoves_c (xs ys : List Mv) (v u : Value) (w : World) (hx : RdM w v xs) (hy : RdM w u ys) (hz : ∀ m ∈ xs, m.1.size ≤ 9223372036854775807 ∧ m.2.size ≤ 9223372036854775807) (hn : xs.length ≤ 1048576) (hz2 : ∀ m ∈ ys, m.1.size ≤ 9223372036854775807 ∧ m.2.size ≤ 9223372036854775807) (hn2 : ys.length ≤ 1048576) :
    Calls Try.prog 17 #[v, u] w fun e w' => ∃ v', e = .returned (.tuple #[v', .bool (mvalid xs && mvalid ys)]) ∧ w'.ownsRow w.heap.size 60 2 v' (compM xs ys).length (mcells (compM xs ys)) ∧ Below w.heap.size w w' := by
  have HX := Lib.hid (fun W (hW : Below w.heap.size w W) => hx.below hW)
  have HY := Lib.hid (fun W (hW : Below w.heap.size w W) => hy.below hW)
  have HV1 := Lib.hid (spMovesValid_c xs v w hx hz hn)
  have HV2 := Lib.hid (fun W hW => spMovesValid_c ys u W hW hz2 hn2)
  have HC := Lib.hid (fun W h1 h2 => l4Compose_c xs ys v u W h1 h2)
  have HM1 := Lib.hid (fun h1 h2 => compM_yes (xs := xs) (ys := ys) h1 h2)
  have HM2 := Lib.hid (fun h => compM_no (xs := xs) (ys := ys) h)
  clear hx hy hz hz2
  rcases Bool.eq_false_or_eq_true (mvalid xs) with h1 | h1
  · rcases Bool.eq_false_or_eq_true (mvalid ys) with h2 | h2
    all_goals
      go_enter Try.func17, Try.ntmps17
      go_wp2_with fail
      refine HV1.out.mono ?_
      rintro e w1 ⟨he, hb1⟩
      rw [h1] at he
      subst he
      have hs1 := hb1.size
      have hy1 := HY.out w1 hb1
      go_wp2_with fail
      refine (HV2.out w1 hy1).mono ?_
      rintro e w2 ⟨he, hb2⟩
      rw [h2] at he
      subst he
      have hbw := hb1.trans (hb2.mono hs1)
      have hs2 := hbw.size
    · have hx2 := HX.out w2 hbw
      have hy2 := HY.out w2 hbw
      go_wp2_with fail
      refine (HC.out w2 hx2 hy2).mono ?_
      rintro e w3 ⟨v', rfl, ho, hb3⟩
      have hb := hbw.trans (hb3.mono hs2)
      have ho3 := own_more ho hs2
      clear hb1 hb2 hb3 ho hx2 hy2
      go_wp2
      go_ret2
      exact ⟨_, by rw [h1, h2]; rfl, by rw [HM1.out h1 h2]; exact ho3, hb⟩
    · have hE := World.ownsRow_lit (e := 60) (base := w.heap.size) (size := 2) w2 #[] 0 hs2 (Nat.zero_le _) rfl
      go_wp2
      go_ret2
      exact ⟨_, by rw [h1, h2]; rfl, by rw [HM2.out (by rw [h1, h2]; rfl)]; exact hE, by (repeat' (first | (with_reducible exact Below.refl _ _) | (with_reducible assumption) | (with_reducible refine Below.alloc ?_ ?_ _) | (with_reducible refine Below.drew ?_) | (with_reducible refine Below.setCell ?_ ?_ _) | (with_reducible exact Nat.le_refl _) | omega | ((repeat (first | rewrite [World.size_alloc] | rewrite [World.size_setCell] | rewrite [World.size_drew])); omega) | (simp; omega) | (simp; done)))⟩
  · go_enter Try.func17, Try.ntmps17
    go_wp2_with fail
    refine HV1.out.mono ?_
    rintro e w1 ⟨he, hb1⟩
    rw [h1] at he
    subst he
    have hs1 := hb1.size
    have hE := World.ownsRow_lit (e := 60) (base := w.heap.size) (size := 2) w1 #[] 0 hs1 (Nat.zero_le _) rfl
    go_wp2
    go_ret2
    exact ⟨_, by rw [h1]; rfl, by rw [HM2.out (by rw [h1]; rfl)]; exact hE, by (repeat' (first | (with_reducible exact Below.refl _ _) | (with_reducible assumption) | (with_reducible refine Below.alloc ?_ ?_ _) | (with_reducible refine Below.drew ?_) | (with_reducible refine Below.setCell ?_ ?_ _) | (with_reducible exact Nat.le_refl _) | omega | ((repeat (first | rewrite [World.size_alloc] | rewrite [World.size_setCell] | rewrite [World.size_drew])); omega) | (simp; omega) | (simp; done)))⟩
set_option maxRecDepth 100000 in
theorem spPowerOf_c (xs : List Mv) (v : Value) (n : Int) (w : World) (hx : RdM w v xs) (hz : ∀ m ∈ xs, m.1.size ≤ 9223372036854775807 ∧ m.2.size ≤ 9223372036854775807) (hn : xs.length ≤ 1048576) :
    Calls Try.prog 22 #[v, .int .i64 n] w fun e w' => ∃ v', e = .returned (.tuple #[v', .bool (powOk xs n)]) ∧ w'.ownsRow w.heap.size 60 2 v' (powM xs n).length (mcells (powM xs n)) ∧ Below w.heap.size w w' := by
  have HX := Lib.hid (fun W (hW : Below w.heap.size w W) => hx.below hW)
  have HV1 := Lib.hid (spMovesValid_c xs v w hx hz hn)
  have HC := Lib.hid (fun W m hm h1 => l4Power_c xs v m hm W h1)
  have HM1 := Lib.hid (fun h => powM_yes (xs := xs) (n := n) h)
  have HM2 := Lib.hid (fun h => powM_no (xs := xs) (n := n) h)
  have HI := Lib.hid (fun W => l1In_c n 0 60 W)
  have HIB : Hid (inB n 0 60 = (decide (0 ≤ n) && decide (n ≤ 60))) := by show inB n 0 60 = _; unfold inB; rw [Bool.decide_and]
  have HOK : Hid (powOk xs n = (mvalid xs && (decide (0 ≤ n) && decide (n ≤ 60)))) := rfl
  clear hx hz
  rcases Bool.eq_false_or_eq_true (mvalid xs) with h1 | h1
  · rcases Bool.eq_false_or_eq_true (decide (0 ≤ n) && decide (n ≤ 60)) with h2 | h2
    all_goals
      go_enter Try.func22, Try.ntmps22
      go_wp2_with fail
      refine HV1.out.mono ?_
      rintro e w1 ⟨he, hb1⟩
      rw [h1] at he
      subst he
      have hs1 := hb1.size
      go_wp2_with fail
      refine (HI.out w1).mono ?_
      rintro e w2 ⟨he, hw2⟩
      rw [HIB.out, h2] at he
      subst he
      subst hw2
    · rw [Bool.and_eq_true, decide_eq_true_eq, decide_eq_true_eq] at h2
      obtain ⟨m, rfl⟩ := Int.eq_ofNat_of_zero_le h2.1
      have hm : m ≤ 60 := by omega
      have hok : powOk xs (m : Int) = true := by rw [HOK.out, h1]; simp; omega
      have HK := Lib.hid hok
      have hx2 := HX.out w1 hb1
      clear h2 hok
      go_wp2_with fail
      refine (HC.out w1 m hm hx2).mono ?_
      rintro e w3 ⟨v', rfl, ho, hb3⟩
      have hb := hb1.trans (hb3.mono hs1)
      have ho3 := own_more ho hs1
      clear hb1 hb3 ho hx2
      go_wp2
      go_ret2
      exact ⟨_, by rw [HK.out]; rfl, by rw [HM1.out HK.out]; exact ho3, hb⟩
    · have hE := World.ownsRow_lit (e := 60) (base := w.heap.size) (size := 2) w1 #[] 0 hs1 (Nat.zero_le _) rfl
      have hok : powOk xs n = false := by rw [HOK.out, h1, h2]; rfl
      have HK := Lib.hid hok
      clear hok
      go_wp2
      go_ret2
      exact ⟨_, by rw [HK.out]; rfl, by rw [HM2.out HK.out]; exact hE, by (repeat' (first | (with_reducible exact Below.refl _ _) | (with_reducible assumption) | (with_reducible refine Below.alloc ?_ ?_ _) | (with_reducible refine Below.drew ?_) | (with_reducible refine Below.setCell ?_ ?_ _) | (with_reducible exact Nat.le_refl _) | omega | ((repeat (first | rewrite [World.size_alloc] | rewrite [World.size_setCell] | rewrite [World.size_drew])); omega) | (simp; omega) | (simp; done)))⟩
  · have hok : powOk xs n = false := by rw [HOK.out, h1]; rfl
    have HK := Lib.hid hok
    clear hok
    go_enter Try.func22, Try.ntmps22
    go_wp2_with fail
    refine HV1.out.mono ?_
    rintro e w1 ⟨he, hb1⟩
    rw [h1] at he
    subst he
    have hs1 := hb1.size
    have hE := World.ownsRow_lit (e := 60) (base := w.heap.size) (size := 2) w1 #[] 0 hs1 (Nat.zero_le _) rfl
    go_wp2
    go_ret2
    exact ⟨_, by rw [HK.out]; rfl, by rw [HM2.out HK.out]; exact hE, by (repeat' (first | (with_reducible exact Below.refl _ _) | (with_reducible assumption) | (with_reducible refine Below.alloc ?_ ?_ _) | (with_reducible refine Below.drew ?_) | (with_reducible refine Below.setCell ?_ ?_ _) | (with_reducible exact Nat.le_refl _) | omega | ((repeat (first | rewrite [World.size_alloc] | rewrite [World.size_setCell] | rewrite [World.size_drew])); omega) | (simp; omega) | (simp; done)))⟩
end Go.Proofs.Ytmifmfljiaoeaaa
