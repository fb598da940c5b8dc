import Derived.Test.YtmifmfljiaoeaaaPower
import Derived.Test.YtmifmfljiaoeaaaCompS
namespace Go.PM
open Go.RowKit
theorem powM_tab {xs : List Mv} (h : MV xs) {d : Nat → ByteArray} {n : Nat} (hn : n ≤ 60) (hd : ∀ p, p < 9 → srcT d p = pwF (srcT (tabOf xs)) n p) : mvT (noIdle d) (List.range 9) = powM xs (n : Int) := by
  have m1 : mvalid xs = true := by simpa [mvalid] using h
  have hok : powOk xs (n : Int) = true := by
    unfold powOk
    rw [m1]
    simp
    omega
  rw [powM_yes hok, mvT_idle]
  refine lsF_congr fun p hp => ?_
  rw [hd p hp]
  exact pwF_congr (fun q hq => srcT_M h hq) n p hp
end Go.PM
namespace Go.Proofs.Ytmifmfljiaoeaaa
open Go.RowKit Go.PM

set_option maxRecDepth 100000 in
set_option maxHeartbeats 2000000 in
theorem imComposeMoves_c (xs ys : List Mv) (v u : Value) (w : World) (hx : RdM w v xs) (hy : RdM w u ys) :
    Calls Try.prog 16 #[v, u] w fun e w' => ∃ v', e = .returned (.tuple #[v', .bool (mvalid xs && mvalid ys)]) ∧ w'.ownsRow w.heap.size 60 2 v' (compM xs ys).length (mcells (compM xs ys)) ∧ Below w.heap.size w w' := by
  have HY := Lib.hid (fun W (hW : Below w.heap.size w W) => hy.below hW)
  by_cases h1 : MV xs
  · have HX := Lib.hid (tableOf_yes xs h1 v w hx)
    have HM1 := Lib.hid (show mvalid xs = true by simpa [mvalid] using h1)
    by_cases h2 : MV ys
    · have HT := Lib.hid (fun W hW => tableOf_yes ys h2 u W hW)
      have HM2 := Lib.hid (show mvalid ys = true by simpa [mvalid] using h2)
      have HR := Lib.hid (compM_tab h1 h2)
      have HTH := Lib.hid (fun W => then_v (tabOf xs) (tabOf ys) (SVal_tab h2) W)
      clear h1 h2 hx hy
      go_enter Try.func16, Try.ntmps16
      go_wp2_with fail
      refine HX.out.mono ?_
      rintro e w1 ⟨rfl, hb1⟩
      have hs1 := hb1.size
      have hy1 := HY.out _ (hb1.alloc hs1 (.cells (tabA (tabOf xs)) 52))
      go_wp2_with fail
      refine (HT.out _ hy1).mono ?_
      rintro e w2 ⟨rfl, hb2⟩
      have k1 : At (w1.alloc (.cells (tabA (tabOf xs)) 52)) w1.heap.size 52 (tabA (tabOf xs)) := At.new w1 _ _
      have k2 := (k1.keep hb2).alloc (.cells (tabA (tabOf ys)) 52)
      have k3 := At.new w2 52 (tabA (tabOf ys))
      have hB2 := (hb1.alloc hs1 (.cells (tabA (tabOf xs)) 52)).trans (hb2.mono (by simp [World.size_alloc]; omega))
      have hs2 := hB2.size
      have hB3 := hB2.alloc hs2 (.cells (tabA (tabOf ys)) 52)
      have hs3 := hB3.size
      clear hb2 k1 hy1 hb1
      generalize thenF (tabOf xs) (tabOf ys) = tt at *
      generalize tabOf xs = f at *
      generalize tabOf ys = g at *
      go_wp2_with (first | (refine ld_row rfl 52 (.tmp 6) rfl w1.heap.size 52 (tabC f) k2 (by rfl) 9 9 Try.underlying52 (by kernel_rfl) ?_) | (refine ld_row rfl 52 (.tmp 8) rfl w2.heap.size 52 (tabC g) k3 (by rfl) 9 9 Try.underlying52 (by kernel_rfl) ?_) | (go_at_call 48; refine (HTH.out _).mono ?_; rintro e w4 ⟨rfl, hb4⟩; refine held ?_))
      unfold Held
      have hB4 := hB3.trans (hb4.mono hs3)
      have hs4 := hB4.size
      clear hb4 k2 k3 hB3
      go_wp2_with (go_at_call 49; refine (idle_v tt _).mono ?_; rintro e w5 ⟨rfl, hb5⟩; refine held ?_)
      unfold Held
      have hB5 := hB4.trans (hb5.mono hs4)
      have hs5 := hB5.size
      clear hb5 hB4
      have HLI := Lib.hid (fun W => list_c (noIdle tt) W)
      rw [HR.out] at HLI
      go_wp2_with (go_at_call 50; refine (HLI.out _).mono ?_; rintro e w6 ⟨v', rfl, ho, hb6⟩; refine held ?_)
      unfold Held
      have hB6 := hB5.trans (hb6.mono hs5)
      have ho6 := own_more ho hs5
      clear hb6 hB5 ho
      go_wp2
      go_ret2
      exact ⟨_, by rw [HM1.out, HM2.out]; rfl, ho6, hB6⟩
    · have HT := Lib.hid (fun W hW => tableOf_no ys h2 u W hW)
      have HM2 := Lib.hid (show mvalid ys = false by simpa [mvalid] using h2)
      have HNO := Lib.hid (compM_no (xs := xs) (ys := ys) (by rw [HM2.out, Bool.and_false]))
      clear h1 h2 hx hy
      go_enter Try.func16, Try.ntmps16
      go_wp2_with fail
      refine HX.out.mono ?_
      rintro e w1 ⟨rfl, hb1⟩
      have hs1 := hb1.size
      have hy1 := HY.out _ (hb1.alloc hs1 (.cells (tabA (tabOf xs)) 52))
      go_wp2_with fail
      refine (HT.out _ hy1).mono ?_
      rintro e w2 ⟨rfl, hb2⟩
      have hB2 := (hb1.alloc hs1 (.cells (tabA (tabOf xs)) 52)).trans (hb2.mono (by simp [World.size_alloc]; omega))
      have hs2 := hB2.size
      clear hb2 hy1 hb1
      go_wp2
      go_ret2
      exact ⟨_, by rw [HM2.out, Bool.and_false]; rfl, by rw [HNO.out]; exact ⟨rfl, .inl ⟨rfl, rfl⟩⟩, by (repeat' (first | (with_reducible exact Below.refl _ _) | (with_reducible assumption) | (with_reducible refine Below.alloc ?_ ?_ _) | (with_reducible refine Below.drew ?_) | (with_reducible refine Below.setCell ?_ ?_ _) | (with_reducible exact Nat.le_refl _) | omega | ((repeat (first | rewrite [World.size_alloc] | rewrite [World.size_setCell] | rewrite [World.size_drew])); omega) | (simp; omega) | (simp; done)))⟩
  · have HM1 := Lib.hid (show mvalid xs = false by simpa [mvalid] using h1)
    have HNO := Lib.hid (compM_no (xs := xs) (ys := ys) (by rw [HM1.out, Bool.false_and]))
    have HX := Lib.hid (tableOf_no xs h1 v w hx)
    by_cases h2 : MV ys
    all_goals
      first | (have HT := Lib.hid (fun W hW => tableOf_yes ys h2 u W hW)) | (have HT := Lib.hid (fun W hW => tableOf_no ys h2 u W hW))
      clear h1 h2 hx hy
      go_enter Try.func16, Try.ntmps16
      go_wp2_with fail
      refine HX.out.mono ?_
      rintro e w1 ⟨rfl, hb1⟩
      have hs1 := hb1.size
      have hy1 := HY.out _ (hb1.alloc hs1 (.cells (tabA (fun _ => emp)) 52))
      go_wp2_with fail
      refine (HT.out _ hy1).mono ?_
      rintro e w2 ⟨rfl, hb2⟩
      have hB2 := (hb1.alloc hs1 (.cells (tabA (fun _ => emp)) 52)).trans (hb2.mono (by simp [World.size_alloc]; omega))
      have hs2 := hB2.size
      clear hb2 hy1 hb1
      go_wp2
      go_ret2
      exact ⟨_, by rw [HM1.out, Bool.false_and]; rfl, by rw [HNO.out]; exact ⟨rfl, .inl ⟨rfl, rfl⟩⟩, by (repeat' (first | (with_reducible exact Below.refl _ _) | (with_reducible assumption) | (with_reducible refine Below.alloc ?_ ?_ _) | (with_reducible refine Below.drew ?_) | (with_reducible refine Below.setCell ?_ ?_ _) | (with_reducible exact Nat.le_refl _) | omega | ((repeat (first | rewrite [World.size_alloc] | rewrite [World.size_setCell] | rewrite [World.size_drew])); omega) | (simp; omega) | (simp; done)))⟩
set_option maxRecDepth 100000 in
set_option maxHeartbeats 2000000 in
theorem imPowerOf_c (xs : List Mv) (v : Value) (n : Int) (w : World) (hx : RdM w v xs) :
    Calls Try.prog 21 #[v, .int .i64 n] w fun e w' => ∃ v', e = .returned (.tuple #[v', .bool (powOk xs n)]) ∧ w'.ownsRow w.heap.size 60 2 v' (powM xs n).length (mcells (powM xs n)) ∧ Below w.heap.size w w' := by
  have HOK : Hid (powOk xs n = (mvalid xs && (decide (0 ≤ n) && decide (n ≤ 60)))) := rfl
  have HM2 := Lib.hid (fun h => powM_no (xs := xs) (n := n) h)
  by_cases h1 : MV xs
  · have HX := Lib.hid (tableOf_yes xs h1 v w hx)
    have HM1 := Lib.hid (show mvalid xs = true by simpa [mvalid] using h1)
    by_cases h2 : 0 ≤ n
    · obtain ⟨m, rfl⟩ := Int.eq_ofNat_of_zero_le h2
      have g1 : decide ((m : Int) < 0) = false := decide_eq_false (by omega)
      by_cases h3 : m ≤ 60
      · have g2 : decide ((60 : Int) < (m : Int)) = false := decide_eq_false (by omega)
        have HP := Lib.hid (fun W => power_c (tabOf xs) (SVal_tab h1) m h3 W)
        have HR := Lib.hid (fun d hd => powM_tab (d := d) h1 h3 hd)
        have HK : Hid (powOk xs (m : Int) = true) := by show _ = _; rw [HOK.out, HM1.out]; simp; omega
        clear h1 hx
        go_enter Try.func21, Try.ntmps21
        go_wp2_with fail
        refine HX.out.mono ?_
        rintro e w1 ⟨rfl, hb1⟩
        have hs1 := hb1.size
        have k1 : At (w1.alloc (.cells (tabA (tabOf xs)) 52)) w1.heap.size 52 (tabA (tabOf xs)) := At.new w1 _ _
        have hB2 := hb1.alloc hs1 (.cells (tabA (tabOf xs)) 52)
        have hs2 := hB2.size
        clear hb1
        generalize tabOf xs = f at *
        go_wp2_with (first | (refine ld_row rfl 52 (.tmp 6) rfl w1.heap.size 52 (tabC f) k1 (by rfl) 9 9 Try.underlying52 (by kernel_rfl) ?_) | (go_at_call 58; refine (HP.out _).mono ?_; rintro e w4 ⟨d, rfl, hd, hb4⟩; refine held ?_))
        unfold Held
        have hB4 := hB2.trans (hb4.mono hs2)
        have hs4 := hB4.size
        clear hb4 k1 hB2
        go_wp2_with (go_at_call 49; refine (idle_v d _).mono ?_; rintro e w5 ⟨rfl, hb5⟩; refine held ?_)
        unfold Held
        have hB5 := hB4.trans (hb5.mono hs4)
        have hs5 := hB5.size
        clear hb5 hB4
        have HLI := Lib.hid (fun W => list_c (noIdle d) W)
        rw [HR.out d hd.out] at HLI
        go_wp2_with (go_at_call 50; refine (HLI.out _).mono ?_; rintro e w6 ⟨v', rfl, ho, hb6⟩; refine held ?_)
        unfold Held
        have hB6 := hB5.trans (hb6.mono hs5)
        have ho6 := own_more ho hs5
        clear hb6 hB5 ho
        go_wp2
        go_ret2
        exact ⟨_, by rw [HK.out]; rfl, ho6, hB6⟩
      · have g2 : decide ((60 : Int) < (m : Int)) = true := decide_eq_true (by omega)
        have HK : Hid (powOk xs (m : Int) = false) := by show _ = _; rw [HOK.out, HM1.out]; simp; omega
        clear h1 hx
        go_enter Try.func21, Try.ntmps21
        go_wp2_with fail
        refine HX.out.mono ?_
        rintro e w1 ⟨rfl, hb1⟩
        have hs1 := hb1.size
        go_wp2
        go_ret2
        exact ⟨_, by rw [HK.out]; rfl, by rw [HM2.out HK.out]; exact ⟨rfl, .inl ⟨rfl, rfl⟩⟩, by (repeat' (first | (with_reducible exact Below.refl _ _) | (with_reducible assumption) | (with_reducible refine Below.alloc ?_ ?_ _) | (with_reducible refine Below.drew ?_) | (with_reducible refine Below.setCell ?_ ?_ _) | (with_reducible exact Nat.le_refl _) | omega | ((repeat (first | rewrite [World.size_alloc] | rewrite [World.size_setCell] | rewrite [World.size_drew])); omega) | (simp; omega) | (simp; done)))⟩
    · have g1 : decide (n < 0) = true := decide_eq_true (by omega)
      have HK : Hid (powOk xs n = false) := by show _ = _; rw [HOK.out, HM1.out]; simp; omega
      clear h1 hx
      go_enter Try.func21, Try.ntmps21
      go_wp2_with fail
      refine HX.out.mono ?_
      rintro e w1 ⟨rfl, hb1⟩
      have hs1 := hb1.size
      go_wp2
      go_ret2
      exact ⟨_, by rw [HK.out]; rfl, by rw [HM2.out HK.out]; exact ⟨rfl, .inl ⟨rfl, rfl⟩⟩, by (repeat' (first | (with_reducible exact Below.refl _ _) | (with_reducible assumption) | (with_reducible refine Below.alloc ?_ ?_ _) | (with_reducible refine Below.drew ?_) | (with_reducible refine Below.setCell ?_ ?_ _) | (with_reducible exact Nat.le_refl _) | omega | ((repeat (first | rewrite [World.size_alloc] | rewrite [World.size_setCell] | rewrite [World.size_drew])); omega) | (simp; omega) | (simp; done)))⟩
  · have HX := Lib.hid (tableOf_no xs h1 v w hx)
    have HM1 := Lib.hid (show mvalid xs = false by simpa [mvalid] using h1)
    have HK : Hid (powOk xs n = false) := by show _ = _; rw [HOK.out, HM1.out]; rfl
    clear h1 hx
    go_enter Try.func21, Try.ntmps21
    go_wp2_with fail
    refine HX.out.mono ?_
    rintro e w1 ⟨rfl, hb1⟩
    have hs1 := hb1.size
    go_wp2
    go_ret2
    exact ⟨_, by rw [HK.out]; rfl, by rw [HM2.out HK.out]; exact ⟨rfl, .inl ⟨rfl, rfl⟩⟩, by (repeat' (first | (with_reducible exact Below.refl _ _) | (with_reducible assumption) | (with_reducible refine Below.alloc ?_ ?_ _) | (with_reducible refine Below.drew ?_) | (with_reducible refine Below.setCell ?_ ?_ _) | (with_reducible exact Nat.le_refl _) | omega | ((repeat (first | rewrite [World.size_alloc] | rewrite [World.size_setCell] | rewrite [World.size_drew])); omega) | (simp; omega) | (simp; done)))⟩
end Go.Proofs.Ytmifmfljiaoeaaa
