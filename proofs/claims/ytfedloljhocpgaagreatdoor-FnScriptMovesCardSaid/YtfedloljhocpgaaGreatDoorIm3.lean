import Derived.Test.YtfedloljhocpgaaGreatDoorIm2
import Derived.Test.YtfedloljhocpgaaGreatDoorP2
import Derived.Test.YtfedloljhocpgaaGreatDoorRow
namespace Go.Proofs.YtfedloljhocpgaaGreatDoor
open Go.RowKit Go.PM Go.Lib

theorem cellOf_yes (s : ByteArray) (h : isC s = true) (w : World) :
    Calls Tryz.prog 170 #[.string s] w fun e w' => e = .returned (.tuple #[.int .i64 (cidx s), .bool true]) ∧ w = w' := by
  obtain ⟨c, rfl⟩ := one_of_size (isC_size h)
  have h2 : c ∈ cellsL := by simpa [isC] using h
  have h4 : indexByte cellsL c = (cidx ⟨#[c]⟩ : Nat) := (cidx_one h2).1
  have h5 := fun W => positionIn_yes ⟨#[97, 98, 99, 100, 101, 102, 65, 66, 67, 116, 117]⟩ c _ h4 W
  clear h h2 h4
  generalize cidx ⟨#[c]⟩ = i at *
  go_enter Tryz.func170, Tryz.ntmps170
  go_wp2_with (go_at_call 101; refine (h5 _).mono ?_; rintro e w' ⟨rfl, rfl⟩)
  go_ret2
  exact ⟨rfl, rfl⟩
theorem cellOf_no (s : ByteArray) (h : isC s = false) (w : World) :
    Calls Tryz.prog 170 #[.string s] w fun e w' => e = .returned (.tuple #[.int .i64 0, .bool false]) ∧ w = w' := by
  have h5 := fun W => positionIn_no ⟨#[97, 98, 99, 100, 101, 102, 65, 66, 67, 116, 117]⟩ s (fun c hc hm => by
    rw [hc] at h
    have : isC ⟨#[c]⟩ = true := by simpa [isC, cellsL] using hm
    rw [this] at h; cases h) W
  clear h
  go_enter Tryz.func170, Tryz.ntmps170
  go_wp2_with (go_at_call 101; refine (h5 _).mono ?_; rintro e w' ⟨rfl, rfl⟩)
  go_ret2
  exact ⟨rfl, rfl⟩
theorem isCell_c (s : ByteArray) (w : World) :
    Calls Tryz.prog 158 #[.string s] w fun e w' => e = .returned (.bool (isC s)) ∧ w = w' := by
  rcases Bool.eq_false_or_eq_true (isC s) with h | h
  · go_enter Tryz.func158, Tryz.ntmps158
    go_wp2_with (go_at_call 170; refine (cellOf_yes s h _).mono ?_; rintro e w' ⟨rfl, rfl⟩)
    go_ret
    exact ⟨by rw [h]; rfl, rfl⟩
  · go_enter Tryz.func158, Tryz.ntmps158
    go_wp2_with (go_at_call 170; refine (cellOf_no s h _).mono ?_; rintro e w' ⟨rfl, rfl⟩)
    go_ret
    exact ⟨by rw [h]; rfl, rfl⟩
set_option maxHeartbeats 800000 in
theorem stepValid_c (k : Int) (a b : ByteArray) (w : World) :
    Calls Tryz.prog 122 #[.agg #[.int .i64 k, .string a, .string b]] w fun e w' => e = .returned (.bool (stOk (k, a, b))) ∧ Below w.heap.size w w' := by
  have HS : Hid (stOk (k, a, b) = ((decide (k = 0) && (isC a && (isC b || isD b))) || (decide (k = 1) && (isC a && isC b)))) := rfl
  by_cases hk0 : k = 0
  · subst hk0
    rcases Bool.eq_false_or_eq_true (isC a) with h1 | h1 <;> rcases Bool.eq_false_or_eq_true (isC b) with h2 | h2
    all_goals
      go_enter Tryz.func122, Tryz.ntmps122
      go_wp2_with (first | (go_at_call 158; refine (isCell_c _ _).mono ?_; rintro e w' ⟨rfl, rfl⟩) | (go_at_call 145; refine (isDigit_c _ _).mono ?_; rintro e w' ⟨rfl, rfl⟩))
      go_ret
      exact ⟨by rw [HS.out, h1, h2]; simp, by (repeat' (first | (with_reducible exact Below.refl _ _) | (with_reducible assumption) | (with_reducible refine Below.alloc ?_ ?_ _) | (with_reducible refine Below.drew ?_) | (with_reducible refine Below.setCell ?_ ?_ _) | (with_reducible exact Nat.le_refl _) | omega | ((repeat (first | rewrite [World.size_alloc] | rewrite [World.size_setCell] | rewrite [World.size_drew])); omega) | (simp; omega) | (simp; done)))⟩
  · by_cases hk1 : k = 1
    · subst hk1
      rcases Bool.eq_false_or_eq_true (isC a) with h1 | h1 <;> rcases Bool.eq_false_or_eq_true (isC b) with h2 | h2
      all_goals
        go_enter Tryz.func122, Tryz.ntmps122
        go_wp2_with (first | (go_at_call 158; refine (isCell_c _ _).mono ?_; rintro e w' ⟨rfl, rfl⟩) | (go_at_call 145; refine (isDigit_c _ _).mono ?_; rintro e w' ⟨rfl, rfl⟩))
        go_ret
        exact ⟨by rw [HS.out, h1, h2]; simp, by (repeat' (first | (with_reducible exact Below.refl _ _) | (with_reducible assumption) | (with_reducible refine Below.alloc ?_ ?_ _) | (with_reducible refine Below.drew ?_) | (with_reducible refine Below.setCell ?_ ?_ _) | (with_reducible exact Nat.le_refl _) | omega | ((repeat (first | rewrite [World.size_alloc] | rewrite [World.size_setCell] | rewrite [World.size_drew])); omega) | (simp; omega) | (simp; done)))⟩
    · have t0 : (k == 0) = false := by simpa using hk0
      have t1 : (k == 1) = false := by simpa using hk1
      have HF : Hid (stOk (k, a, b) = false) := by show _ = _; rw [HS.out]; simp [hk0, hk1]
      clear hk0 hk1
      go_enter Tryz.func122, Tryz.ntmps122
      go_wp2_with (first | (go_at_call 158; refine (isCell_c _ _).mono ?_; rintro e w' ⟨rfl, rfl⟩))
      go_ret
      exact ⟨by rw [HF.out]; rfl, by (repeat' (first | (with_reducible exact Below.refl _ _) | (with_reducible assumption) | (with_reducible refine Below.alloc ?_ ?_ _) | (with_reducible refine Below.drew ?_) | (with_reducible refine Below.setCell ?_ ?_ _) | (with_reducible exact Nat.le_refl _) | omega | ((repeat (first | rewrite [World.size_alloc] | rewrite [World.size_setCell] | rewrite [World.size_drew])); omega) | (simp; omega) | (simp; done)))⟩
set_option maxHeartbeats 800000 in
theorem imSequenceValid_c (xs : List St) (v : Value) (w : World) (hx : RdS w v xs) :
    Calls Tryz.prog 62 #[v] w fun e w' => e = .returned (.bool (svalid xs)) ∧ Below w.heap.size w w' := by
  obtain ⟨A, cap, rfl, hn, hc, hcell⟩ := hx.open
  have HNO := Lib.hid (fun k hk => svalid_no (s := xs) k hk)
  have HALL := Lib.hid (fun h => svalid_all (s := xs) h)
  by_cases hl : (60 : Int) < xs.length
  · have HF : Hid (svalid xs = false) := by
      show _ = _
      cases hs : svalid xs with
      | false => rfl
      | true => have := svalid_len hs; omega
    go_enter Tryz.func62, Tryz.ntmps62
    go_wp2
    go_ret
    exact ⟨by rw [HF.out]; rfl, Below.refl _ _⟩
  go_enter Tryz.func62, Tryz.ntmps62
  go_wp2
  go_loopw [4, 10] (fun _ i wr => ∃ (k : Nat), k ≤ xs.length ∧ i = .int .i64 k ∧ Hid (∀ j (hj : j < xs.length), j < k → stOk xs[j] = true) ∧ Below w.heap.size w wr) (fun _ i _ => xs.length - (RowKit.intOf i).toNat)
  case atStart => exact ⟨0, by omega, rfl, fun j _ hj => absurd hj (Nat.not_lt_zero j), Below.refl _ _⟩
  case round =>
    obtain ⟨k, hk, rfl, hm, hb⟩ := hrel
    have hbs := hb.size
    by_cases hlt : k < xs.length
    · obtain ⟨b, off, rfl, hbl, hc1, hc2, hc3⟩ := hcell k hlt
      have hd1 := (hb.cell (p := ⟨b, off + k * 3, none⟩) hbl).trans hc1
      have hd2 := (hb.cell (p := ⟨b, off + k * 3 + 1, none⟩) hbl).trans hc2
      have hd3 := (hb.cell (p := ⟨b, off + k * 3 + 2, none⟩) hbl).trans hc3
      have HE : Hid (stOk xs[k] = stOk (xs[k].1, xs[k].2.1, xs[k].2.2)) := rfl
      have HN := Lib.hid (HNO.out k hlt)
      have HM : Hid (stOk xs[k] = true → ∀ j (hj : j < xs.length), j < k + 1 → stOk xs[j] = true) := by
        intro h j hj hjk
        rcases Nat.lt_succ_iff_lt_or_eq.1 hjk with h1 | h1
        · exact hm.out j hj h1
        · subst h1; exact h
      clear hc1 hc2 hc3 hcell
      generalize xs[k].1 = x1 at *
      generalize xs[k].2.1 = x2 at *
      generalize xs[k].2.2 = x3 at *
      rcases Bool.eq_false_or_eq_true (stOk (x1, x2, x3)) with hv | hv
      · go_wp2_with fail
        refine (stepValid_c x1 x2 x3 _).mono ?_
        rintro e w2 ⟨rfl, hb2⟩
        rw [hv]
        have hb3 : Below w.heap.size w w2 := (hb.alloc hbs _).trans (hb2.mono (by simp; omega))
        go_wp2
        go_roundw
        case rel => exact ⟨k + 1, by omega, by go_num, HM.out (by rw [HE.out]; exact hv), hb3⟩
        case measure => simp [RowKit.intOf]; omega
      · go_wp2_with fail
        refine (stepValid_c x1 x2 x3 _).mono ?_
        rintro e w2 ⟨rfl, hb2⟩
        rw [hv]
        have hb3 : Below w.heap.size w w2 := (hb.alloc hbs _).trans (hb2.mono (by simp; omega))
        have HF : Hid (svalid xs = false) := HN.out (by rw [HE.out]; exact hv)
        go_wp2
        go_ret
        exact ⟨by rw [HF.out]; rfl, hb3⟩
    · have hT : Hid (svalid xs = true) := by
        show _ = _
        rw [HALL.out (fun j hj => hm.out j hj (by omega)), decide_eq_true_eq]; omega
      go_wp2
      go_ret
      exact ⟨by rw [hT.out]; rfl, hb⟩
end Go.Proofs.YtfedloljhocpgaaGreatDoor

