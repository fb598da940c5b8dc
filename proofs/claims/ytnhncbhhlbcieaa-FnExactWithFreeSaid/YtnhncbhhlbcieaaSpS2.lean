import Derived.Test.YtnhncbhhlbcieaaSpS
import Derived.Test.YtnhncbhhlbcieaaRow
namespace Go.Proofs.Ytnhncbhhlbcieaa
open Go.RowKit Go.PM

set_option maxRecDepth 100000 in
set_option maxHeartbeats 1600000 in
theorem spSequenceValid_c (xs : List St) (v : Value) (w : World) (hx : RdS w v xs) :
    Calls Try.prog 12 #[v] w fun e w' => e = .returned (.bool (svalid xs)) ∧ Below w.heap.size w w' := by
  obtain ⟨A, cap, rfl, hn, hc, hcell⟩ := hx.open
  have HNO := Lib.hid (fun k hk => svalid_no (s := xs) k hk)
  have HALL := Lib.hid (fun h => svalid_all (s := xs) h)
  go_enter Try.func12, Try.ntmps12
  go_wp2
  go_loopw [4, 7] (fun _ i wr => ∃ (k : Nat), k ≤ xs.length ∧ i = .int .i64 k ∧ Hid (∀ j (hj : j < xs.length), j < k → stOk xs[j] = true) ∧ Below w.heap.size w wr) (fun _ i _ => xs.length - (intOf i).toNat)
  case atStart => exact ⟨0, by omega, rfl, fun j _ hj => absurd hj (Nat.not_lt_zero j), Below.refl _ _⟩
  case round =>
    obtain ⟨k, hk, rfl, hm, hb⟩ := hrel
    have hbs := hb.size
    by_cases hlt : k < xs.length
    · obtain ⟨b, off, rfl, hbl, hc1, hc2, hc3⟩ := hcell k hlt
      have hd1 := (hb.cell (p := ⟨b, off + k * 3, none⟩) hbl).trans hc1
      have hd2 := (hb.cell (p := ⟨b, off + k * 3 + 1, none⟩) hbl).trans hc2
      have hd3 := (hb.cell (p := ⟨b, off + k * 3 + 2, none⟩) hbl).trans hc3
      have HE : Hid (stOk xs[k] = ((decide (xs[k].1 = 0) && (isC xs[k].2.1 && (isC xs[k].2.2 || isD xs[k].2.2))) || (decide (xs[k].1 = 1) && (isC xs[k].2.1 && isC xs[k].2.2)))) := rfl
      have HN := Lib.hid (HNO.out k hlt)
      have HM : Hid (stOk xs[k] = true → ∀ j (hj : j < xs.length), j < k + 1 → stOk xs[j] = true) := by
        intro h j hj hjk
        rcases Nat.lt_succ_iff_lt_or_eq.1 hjk with h1 | h1
        · exact hm.out j hj h1
        · subst h1; exact h
      have HIB : Hid (∀ n : Int, inB n 0 1 = (decide (n = 0) || decide (n = 1))) := by
        intro n; unfold inB; rw [Bool.eq_iff_iff]; simp; omega
      clear hc1 hc2 hc3 hcell
      generalize xs[k].1 = x1 at *
      generalize xs[k].2.1 = x2 at *
      generalize xs[k].2.2 = x3 at *
      have h0 : x1 = 0 ∨ x1 = 1 ∨ (¬ x1 = 0 ∧ ¬ x1 = 1) := by omega
      rcases h0 with rfl | rfl | ⟨n0, n1⟩
      · rcases Bool.eq_false_or_eq_true (isC x2) with b1 | b1 <;> rcases Bool.eq_false_or_eq_true (isC x3) with b2 | b2 <;> rcases Bool.eq_false_or_eq_true (isD x3) with b3 | b3
        all_goals
          have hI : ∀ W, Calls Try.prog 13 #[.int .i64 0, .int .i64 0, .int .i64 1] W fun e w' => e = .returned (.bool true) ∧ W = w' := fun W => l1In_c 0 0 1 W
          go_wp2_with (first | (go_at_call 24; refine (l2Place_c _ _).mono ?_; rintro e w' ⟨rfl, rfl⟩; simp only [b1, b2]) | (go_at_call 25; refine (l1Digit_c _ _).mono ?_; rintro e w' ⟨rfl, rfl⟩; simp only [b3]) | (go_at_call 13; refine (hI _).mono ?_; rintro e w' ⟨rfl, rfl⟩))
          first
          | (go_roundw
             case rel => exact ⟨k + 1, by omega, by go_num, HM.out (by rw [HE.out]; simp [b1, b2, b3]), by (repeat' (first | (with_reducible exact Below.refl _ _) | (with_reducible assumption) | (with_reducible refine Below.alloc ?_ ?_ _) | (with_reducible refine Below.drew ?_) | (with_reducible refine Below.setCell ?_ ?_ _) | (with_reducible exact Nat.le_refl _) | omega | ((repeat (first | rewrite [World.size_alloc] | rewrite [World.size_setCell] | rewrite [World.size_drew])); omega) | (simp; omega) | (simp; done)))⟩
             case measure => simp [intOf]; omega)
          | (go_ret
             exact ⟨by rw [HN.out (by rw [HE.out]; simp [b1, b2, b3])]; rfl, by (repeat' (first | (with_reducible exact Below.refl _ _) | (with_reducible assumption) | (with_reducible refine Below.alloc ?_ ?_ _) | (with_reducible refine Below.drew ?_) | (with_reducible refine Below.setCell ?_ ?_ _) | (with_reducible exact Nat.le_refl _) | omega | ((repeat (first | rewrite [World.size_alloc] | rewrite [World.size_setCell] | rewrite [World.size_drew])); omega) | (simp; omega) | (simp; done)))⟩)
      · rcases Bool.eq_false_or_eq_true (isC x2) with b1 | b1 <;> rcases Bool.eq_false_or_eq_true (isC x3) with b2 | b2 <;> rcases Bool.eq_false_or_eq_true (isD x3) with b3 | b3
        all_goals
          have hI : ∀ W, Calls Try.prog 13 #[.int .i64 1, .int .i64 0, .int .i64 1] W fun e w' => e = .returned (.bool true) ∧ W = w' := fun W => l1In_c 1 0 1 W
          go_wp2_with (first | (go_at_call 24; refine (l2Place_c _ _).mono ?_; rintro e w' ⟨rfl, rfl⟩; simp only [b1, b2]) | (go_at_call 25; refine (l1Digit_c _ _).mono ?_; rintro e w' ⟨rfl, rfl⟩; simp only [b3]) | (go_at_call 13; refine (hI _).mono ?_; rintro e w' ⟨rfl, rfl⟩))
          first
          | (go_roundw
             case rel => exact ⟨k + 1, by omega, by go_num, HM.out (by rw [HE.out]; simp [b1, b2, b3]), by (repeat' (first | (with_reducible exact Below.refl _ _) | (with_reducible assumption) | (with_reducible refine Below.alloc ?_ ?_ _) | (with_reducible refine Below.drew ?_) | (with_reducible refine Below.setCell ?_ ?_ _) | (with_reducible exact Nat.le_refl _) | omega | ((repeat (first | rewrite [World.size_alloc] | rewrite [World.size_setCell] | rewrite [World.size_drew])); omega) | (simp; omega) | (simp; done)))⟩
             case measure => simp [intOf]; omega)
          | (go_ret
             exact ⟨by rw [HN.out (by rw [HE.out]; simp [b1, b2, b3])]; rfl, by (repeat' (first | (with_reducible exact Below.refl _ _) | (with_reducible assumption) | (with_reducible refine Below.alloc ?_ ?_ _) | (with_reducible refine Below.drew ?_) | (with_reducible refine Below.setCell ?_ ?_ _) | (with_reducible exact Nat.le_refl _) | omega | ((repeat (first | rewrite [World.size_alloc] | rewrite [World.size_setCell] | rewrite [World.size_drew])); omega) | (simp; omega) | (simp; done)))⟩)
      · have hI : ∀ W, Calls Try.prog 13 #[.int .i64 x1, .int .i64 0, .int .i64 1] W fun e w' => e = .returned (.bool false) ∧ W = w' := fun W => by
          have := l1In_c x1 0 1 W
          rw [HIB.out x1] at this
          simpa [n0, n1] using this
        have HF : Hid (svalid xs = false) := HN.out (by rw [HE.out]; simp [n0, n1])
        have t1 : (x1 == 1) = false := by simpa using n1
        clear n0 n1
        rcases Bool.eq_false_or_eq_true (isC x2) with b1 | b1 <;> rcases Bool.eq_false_or_eq_true (isC x3) with b2 | b2 <;> rcases Bool.eq_false_or_eq_true (isD x3) with b3 | b3
        all_goals
          go_wp2_with (first | (go_at_call 24; refine (l2Place_c _ _).mono ?_; rintro e w' ⟨rfl, rfl⟩; simp only [b1, b2]) | (go_at_call 25; refine (l1Digit_c _ _).mono ?_; rintro e w' ⟨rfl, rfl⟩; simp only [b3]) | (go_at_call 13; refine (hI _).mono ?_; rintro e w' ⟨rfl, rfl⟩))
          go_ret
          exact ⟨by rw [HF.out]; rfl, by (repeat' (first | (with_reducible exact Below.refl _ _) | (with_reducible assumption) | (with_reducible refine Below.alloc ?_ ?_ _) | (with_reducible refine Below.drew ?_) | (with_reducible refine Below.setCell ?_ ?_ _) | (with_reducible exact Nat.le_refl _) | omega | ((repeat (first | rewrite [World.size_alloc] | rewrite [World.size_setCell] | rewrite [World.size_drew])); omega) | (simp; omega) | (simp; done)))⟩
    · have hT : Hid (svalid xs = decide ((xs.length : Int) ≤ 60)) := by
        show _ = _
        rw [HALL.out (fun j hj => hm.out j hj (by omega))]
        rw [decide_eq_decide]; omega
      go_wp2
      go_ret
      exact ⟨by rw [hT.out]; rfl, hb⟩
end Go.Proofs.Ytnhncbhhlbcieaa
