import Derived.Test.YtplapaojgcloaaaDoorSpS
import Derived.Test.YtplapaojgcloaaaDoorRow
namespace Go.Proofs.YtplapaojgcloaaaDoor
open Go.RowKit Go.PM

set_option maxHeartbeats 800000 in
theorem l2Do_c (f : Nat → UInt8) (k : Int) (a b : ByteArray) (h : stOk (k, a, b) = true) (w : World) :
    Calls Tryd.prog 112 #[.agg #[.int .i64 k, .string a, .string b], .string (stB f)] w fun e w' => e = .returned (.string (stB (doS (k, a, b) f))) ∧ Below w.heap.size w w' := by
  rcases stOk_kind h with rfl | rfl
  · obtain ⟨h1, h2⟩ := stOk_move h
    have HD : Hid (doS (0, a, b) f = updS f (cidx a) (rdS f b)) := rfl
    have hV := fun W => l2Value_c f b h2 W
    have hP := fun W => l2Put_c f a h1 (rdS f b) W
    clear h h1 h2
    generalize rdS f b = v at *
    generalize updS f (cidx a) v = g at *
    generalize stB f = t at *
    go_enter Tryd.func112, Tryd.ntmps112
    go_wp2_with (first | (go_at_call 70; refine (hV _).mono ?_; rintro e w' ⟨rfl, rfl⟩) | (go_at_call 135; refine (hP _).mono ?_; rintro e w2 ⟨rfl, hb2⟩))
    go_ret
    exact ⟨by rw [HD.out]; rfl, ((Below.refl _ _).alloc (Nat.le_refl _) _).trans (hb2.mono (by simp))⟩
  · obtain ⟨h1, h2⟩ := stOk_swap h
    have hsw : updS (updS f (cidx b) (f (cidx a))) (cidx a) (f (cidx b)) = doS (1, a, b) f := by rw [swS_spec]; rfl
    have HSW := Lib.hid hsw
    have hV := fun W => l2Value_c f b (by unfold okC; rw [h2]; rfl) W
    have hV2 := fun W => l2Value_c f a (by unfold okC; rw [h1]; rfl) W
    rw [rdS_cell h2] at hV
    rw [rdS_cell h1] at hV2
    have hP := fun W => l2Put_c f b h2 (f (cidx a)) W
    have hP2 := fun W => l2Put_c (updS f (cidx b) (f (cidx a))) a h1 (f (cidx b)) W
    rw [hsw] at hP2
    clear h h1 h2 hsw
    generalize f (cidx b) = v at *
    generalize f (cidx a) = u at *
    generalize doS (1, a, b) f = g at *
    generalize stB (updS f (cidx b) u) = t2 at *
    generalize stB f = t at *
    go_enter Tryd.func112, Tryd.ntmps112
    go_wp2_with fail
    refine (hV _).mono ?_
    rintro e w' ⟨rfl, rfl⟩
    go_wp2_with fail
    refine (hV2 _).mono ?_
    rintro e w' ⟨rfl, rfl⟩
    go_wp2_with fail
    refine (hP _).mono ?_
    rintro e w2 ⟨rfl, hb2⟩
    have hA := (At.new w 72 #[.int .i64 1, .string a, .string b]).keep hb2
    have q1 : w2.cell? ⟨w.heap.size, 1, none⟩ = some (.string a) := hA.cell 1
    have hb3 : Below w.heap.size w w2 := ((Below.refl _ _).alloc (Nat.le_refl _) _).trans (hb2.mono (by simp))
    have hs3 := hb3.size
    go_wp2_with fail
    refine (hP2 _).mono ?_
    rintro e w4 ⟨rfl, hb4⟩
    go_wp2
    go_ret
    exact ⟨rfl, hb3.trans (hb4.mono hs3)⟩
set_option maxHeartbeats 800000 in
theorem l2Run_c (xs : List St) (hv : ∀ k (hk : k < xs.length), stOk xs[k] = true) (v : Value) (f : Nat → UInt8) (w : World) (hx : RdS w v xs) :
    Calls Tryd.prog 68 #[v, .string (stB f)] w fun e w' => e = .returned (.string (stB (runS xs xs.length f))) ∧ Below w.heap.size w w' := by
  obtain ⟨A, cap, rfl, hn, hc, hcell⟩ := hx.open
  have HV := Lib.hid hv
  clear hv
  have HR := Lib.hid (fun k hk => runS_succ xs k hk f)
  have HZ := Lib.hid (runS_zero xs f)
  go_enter Tryd.func68, Tryd.ntmps68
  go_wp2
  go_loopw [1, 6, 9] (fun s _ i wr => ∃ (k : Nat), k ≤ xs.length ∧ i = .int .i64 k ∧ s = .string (stB (runS xs k f)) ∧ Below w.heap.size w wr) (fun _ _ i _ => xs.length - (intOf i).toNat)
  case atStart => exact ⟨0, by omega, rfl, by rw [HZ.out], Below.refl _ _⟩
  case round =>
    obtain ⟨k, hk, rfl, rfl, hb⟩ := hrel
    have hbs := hb.size
    by_cases hlt : k < xs.length
    · obtain ⟨b, off, rfl, hbl, hc1, hc2, hc3⟩ := hcell k hlt
      have hd1 := (hb.cell (p := ⟨b, off + k * 3, none⟩) hbl).trans hc1
      have hd2 := (hb.cell (p := ⟨b, off + k * 3 + 1, none⟩) hbl).trans hc2
      have hd3 := (hb.cell (p := ⟨b, off + k * 3 + 2, none⟩) hbl).trans hc3
      have hok : stOk (xs[k].1, xs[k].2.1, xs[k].2.2) = true := HV.out k hlt
      have hrs : runS xs (k + 1) f = doS (xs[k].1, xs[k].2.1, xs[k].2.2) (runS xs k f) := HR.out k hlt
      clear hc1 hc2 hc3 hcell
      generalize xs[k].1 = x1 at *
      generalize xs[k].2.1 = x2 at *
      generalize xs[k].2.2 = x3 at *
      have HRS := Lib.hid hrs
      have hD := fun W => l2Do_c (runS xs k f) x1 x2 x3 hok W
      clear hrs hok
      generalize doS (x1, x2, x3) (runS xs k f) = g at *
      generalize stB (runS xs k f) = t at *
      go_wp2_with fail
      refine (hD _).mono ?_
      rintro e w2 ⟨rfl, hb2⟩
      go_wp2
      go_roundw
      case rel => exact ⟨k + 1, by omega, by go_num, by rw [HRS.out], (hb.alloc hbs _).trans (hb2.mono (by simp; omega))⟩
      case measure => simp [intOf]; omega
    · have hk' : k = xs.length := by omega
      have HK := Lib.hid hk'
      go_wp2
      go_ret
      exact ⟨by rw [← HK.out]; rfl, hb⟩
set_option maxRecDepth 100000 in
set_option maxHeartbeats 1600000 in
theorem spSequenceValid_c (xs : List St) (v : Value) (w : World) (hx : RdS w v xs) :
    Calls Tryd.prog 53 #[v] w fun e w' => e = .returned (.bool (svalid xs)) ∧ Below w.heap.size w w' := by
  obtain ⟨A, cap, rfl, hn, hc, hcell⟩ := hx.open
  have HNO := Lib.hid (fun k hk => svalid_no (s := xs) k hk)
  have HALL := Lib.hid (fun h => svalid_all (s := xs) h)
  go_enter Tryd.func53, Tryd.ntmps53
  go_wp2
  go_loopw [4, 7] (fun _ i wr => ∃ (k : Nat), k ≤ xs.length ∧ i = .int .i64 k ∧ Hid (∀ j (hj : j < xs.length), j < k → stOk xs[j] = true) ∧ Below w.heap.size w wr) (fun _ i _ => xs.length - (intOf i).toNat)
  case atStart => exact ⟨0, by omega, rfl, fun j _ hj => absurd hj (Nat.not_lt_zero j), Below.refl _ _⟩
  case round =>
    obtain ⟨k, hk, rfl, hm, hb⟩ := hrel
    have hbs := hb.size
    by_cases hlt : k < xs.length
    · obtain ⟨b, off, rfl, hbl, hc1, hc2, hc3⟩ := hcell k hlt
      have hd1 := (hb.cell (p := ⟨b, off + k * 3, none⟩) hbl).trans hc1
      have hd2 := (hb.cell (p := ⟨b, off + k * 3 + 1, none⟩) hbl).trans hc2
      have hd3 := (hb.cell (p := ⟨b, off + k * 3 + 2, none⟩) hbl).trans hc3
      have HE : Hid (stOk xs[k] = ((decide (xs[k].1 = 0) && (isC xs[k].2.1 && (isC xs[k].2.2 || isD xs[k].2.2))) || (decide (xs[k].1 = 1) && (isC xs[k].2.1 && isC xs[k].2.2)))) := rfl
      have HN := Lib.hid (HNO.out k hlt)
      have HM : Hid (stOk xs[k] = true → ∀ j (hj : j < xs.length), j < k + 1 → stOk xs[j] = true) := by
        intro h j hj hjk
        rcases Nat.lt_succ_iff_lt_or_eq.1 hjk with h1 | h1
        · exact hm.out j hj h1
        · subst h1; exact h
      have HIB : Hid (∀ n : Int, inB n 0 1 = (decide (n = 0) || decide (n = 1))) := by
        intro n; unfold inB; rw [Bool.eq_iff_iff]; simp; omega
      clear hc1 hc2 hc3 hcell
      generalize xs[k].1 = x1 at *
      generalize xs[k].2.1 = x2 at *
      generalize xs[k].2.2 = x3 at *
      have h0 : x1 = 0 ∨ x1 = 1 ∨ (¬ x1 = 0 ∧ ¬ x1 = 1) := by omega
      rcases h0 with rfl | rfl | ⟨n0, n1⟩
      · rcases Bool.eq_false_or_eq_true (isC x2) with b1 | b1 <;> rcases Bool.eq_false_or_eq_true (isC x3) with b2 | b2 <;> rcases Bool.eq_false_or_eq_true (isD x3) with b3 | b3
        all_goals
          have hI : ∀ W, Calls Tryd.prog 101 #[.int .i64 0, .int .i64 0, .int .i64 1] W fun e w' => e = .returned (.bool true) ∧ W = w' := fun W => l1In_c 0 0 1 W
          go_wp2_with (first | (go_at_call 99; refine (l2Place_c _ _).mono ?_; rintro e w' ⟨rfl, rfl⟩; simp only [b1, b2]) | (go_at_call 100; refine (l1Digit_c _ _).mono ?_; rintro e w' ⟨rfl, rfl⟩; simp only [b3]) | (go_at_call 101; refine (hI _).mono ?_; rintro e w' ⟨rfl, rfl⟩))
          first
          | (go_roundw
             case rel => exact ⟨k + 1, by omega, by go_num, HM.out (by rw [HE.out]; simp [b1, b2, b3]), by (repeat' (first | (with_reducible exact Below.refl _ _) | (with_reducible assumption) | (with_reducible refine Below.alloc ?_ ?_ _) | (with_reducible refine Below.drew ?_) | (with_reducible refine Below.setCell ?_ ?_ _) | (with_reducible exact Nat.le_refl _) | omega | ((repeat (first | rewrite [World.size_alloc] | rewrite [World.size_setCell] | rewrite [World.size_drew])); omega) | (simp; omega) | (simp; done)))⟩
             case measure => simp [intOf]; omega)
          | (go_ret
             exact ⟨by rw [HN.out (by rw [HE.out]; simp [b1, b2, b3])]; rfl, by (repeat' (first | (with_reducible exact Below.refl _ _) | (with_reducible assumption) | (with_reducible refine Below.alloc ?_ ?_ _) | (with_reducible refine Below.drew ?_) | (with_reducible refine Below.setCell ?_ ?_ _) | (with_reducible exact Nat.le_refl _) | omega | ((repeat (first | rewrite [World.size_alloc] | rewrite [World.size_setCell] | rewrite [World.size_drew])); omega) | (simp; omega) | (simp; done)))⟩)
      · rcases Bool.eq_false_or_eq_true (isC x2) with b1 | b1 <;> rcases Bool.eq_false_or_eq_true (isC x3) with b2 | b2 <;> rcases Bool.eq_false_or_eq_true (isD x3) with b3 | b3
        all_goals
          have hI : ∀ W, Calls Tryd.prog 101 #[.int .i64 1, .int .i64 0, .int .i64 1] W fun e w' => e = .returned (.bool true) ∧ W = w' := fun W => l1In_c 1 0 1 W
          go_wp2_with (first | (go_at_call 99; refine (l2Place_c _ _).mono ?_; rintro e w' ⟨rfl, rfl⟩; simp only [b1, b2]) | (go_at_call 100; refine (l1Digit_c _ _).mono ?_; rintro e w' ⟨rfl, rfl⟩; simp only [b3]) | (go_at_call 101; refine (hI _).mono ?_; rintro e w' ⟨rfl, rfl⟩))
          first
          | (go_roundw
             case rel => exact ⟨k + 1, by omega, by go_num, HM.out (by rw [HE.out]; simp [b1, b2, b3]), by (repeat' (first | (with_reducible exact Below.refl _ _) | (with_reducible assumption) | (with_reducible refine Below.alloc ?_ ?_ _) | (with_reducible refine Below.drew ?_) | (with_reducible refine Below.setCell ?_ ?_ _) | (with_reducible exact Nat.le_refl _) | omega | ((repeat (first | rewrite [World.size_alloc] | rewrite [World.size_setCell] | rewrite [World.size_drew])); omega) | (simp; omega) | (simp; done)))⟩
             case measure => simp [intOf]; omega)
          | (go_ret
             exact ⟨by rw [HN.out (by rw [HE.out]; simp [b1, b2, b3])]; rfl, by (repeat' (first | (with_reducible exact Below.refl _ _) | (with_reducible assumption) | (with_reducible refine Below.alloc ?_ ?_ _) | (with_reducible refine Below.drew ?_) | (with_reducible refine Below.setCell ?_ ?_ _) | (with_reducible exact Nat.le_refl _) | omega | ((repeat (first | rewrite [World.size_alloc] | rewrite [World.size_setCell] | rewrite [World.size_drew])); omega) | (simp; omega) | (simp; done)))⟩)
      · have hI : ∀ W, Calls Tryd.prog 101 #[.int .i64 x1, .int .i64 0, .int .i64 1] W fun e w' => e = .returned (.bool false) ∧ W = w' := fun W => by
          have := l1In_c x1 0 1 W
          rw [HIB.out x1] at this
          simpa [n0, n1] using this
        have HF : Hid (svalid xs = false) := HN.out (by rw [HE.out]; simp [n0, n1])
        have t1 : (x1 == 1) = false := by simpa using n1
        clear n0 n1
        rcases Bool.eq_false_or_eq_true (isC x2) with b1 | b1 <;> rcases Bool.eq_false_or_eq_true (isC x3) with b2 | b2 <;> rcases Bool.eq_false_or_eq_true (isD x3) with b3 | b3
        all_goals
          go_wp2_with (first | (go_at_call 99; refine (l2Place_c _ _).mono ?_; rintro e w' ⟨rfl, rfl⟩; simp only [b1, b2]) | (go_at_call 100; refine (l1Digit_c _ _).mono ?_; rintro e w' ⟨rfl, rfl⟩; simp only [b3]) | (go_at_call 101; refine (hI _).mono ?_; rintro e w' ⟨rfl, rfl⟩))
          go_ret
          exact ⟨by rw [HF.out]; rfl, by (repeat' (first | (with_reducible exact Below.refl _ _) | (with_reducible assumption) | (with_reducible refine Below.alloc ?_ ?_ _) | (with_reducible refine Below.drew ?_) | (with_reducible refine Below.setCell ?_ ?_ _) | (with_reducible exact Nat.le_refl _) | omega | ((repeat (first | rewrite [World.size_alloc] | rewrite [World.size_setCell] | rewrite [World.size_drew])); omega) | (simp; omega) | (simp; done)))⟩
    · have hT : Hid (svalid xs = decide ((xs.length : Int) ≤ 60)) := by
        show _ = _
        rw [HALL.out (fun j hj => hm.out j hj (by omega))]
        rw [decide_eq_decide]; omega
      go_wp2
      go_ret
      exact ⟨by rw [hT.out]; rfl, hb⟩
end Go.Proofs.YtplapaojgcloaaaDoor
