import Derived.Test.YtogkodjlbdlgjaaSlS2
namespace Go.PD
open Go.PM Go.RowKit
theorem beq_u (x : ByteArray) : (x.toList == [117]) = decide (x = spU) := by
  have := beq_str x spU
  rwa [ByteArray.toList_eq spU] at this
theorem mdS_len (xs : List St) : (mdS xs).length ≤ 1048576 := by
  unfold mdS
  split
  · next h =>
    unfold mdB at h
    simp only [Bool.and_eq_true, decide_eq_true_eq] at h
    omega
  · simp
theorem all_bad {xs : List St} (h : ∀ j (hj : j < xs.length), badX xs[j] = false) : ∀ x ∈ xs, badX x = false := fun x hx => by
  obtain ⟨k, hk, rfl⟩ := List.getElem_of_mem hx
  exact h k hk
end Go.PD
namespace Go.Proofs.Ytogkodjlbdlgjaa
open Go.RowKit Go.PM Go.PD Go.Lib

set_option maxRecDepth 100000 in
set_option maxHeartbeats 2000000 in
theorem spMakeDirect_c (xs : List St) (v : Value) (w : World) (hx : RdS w v xs) (hn' : xs.length ≤ 1048576) :
    Calls Try.prog 15 #[v] w fun e w' => ∃ v', e = .returned (.tuple #[v', .bool (mdB xs)]) ∧ w'.ownsRow w.heap.size 67 3 v' (mdS xs).length (scells (mdS xs)) ∧ Below w.heap.size w w' := by
  have hsd := hx
  obtain ⟨A, cap, rfl, hn, hc, hcell⟩ := hx.open
  have HX := Lib.hid (fun W (hW : Below w.heap.size w W) => hsd.below hW)
  have HSV := Lib.hid (fun ys u W (hW : RdS W u ys) => spSequenceValid_c ys u W hW)
  have HDC := Lib.hid (fun W (hW : Below w.heap.size w W) => l8Direct_c xs _ W (HX.out _ hW) hn')
  have HE0 : ∀ W : World, w.heap.size ≤ W.heap.size → (W.alloc (.cells #[] 67)).ownsRow w.heap.size 67 3 (.slice (some ⟨W.heap.size, 0, none⟩) 0 0) ([] : List St).length (scells []) := fun W hW => World.ownsRow_lit (e := 67) (base := w.heap.size) (size := 3) W #[] 0 hW (Nat.zero_le _) rfl
  have HNO : Hid (mdB xs = false → mdS xs = []) := mdS_no
  have HYS : Hid (mdB xs = true → mdS xs = mkD xs) := mdS_yes
  have HBAD := Lib.hid (fun k hk h => bad_no (xs := xs) k hk h)
  have HGD := Lib.hid (fun h => md_good (xs := xs) (all_bad h))
  clear hx hsd
  go_enter Try.func15, Try.ntmps15
  go_wp2
  go_loopw [5, 9] (fun _ i wr => ∃ (k : Nat), k ≤ xs.length ∧ i = .int .i64 k ∧ Hid (∀ j (hj : j < xs.length), j < k → badX xs[j] = false) ∧ Below w.heap.size w wr) (fun _ i _ => xs.length - (RowKit.intOf i).toNat)
  case atStart => exact ⟨0, by omega, rfl, fun j _ hj => absurd hj (Nat.not_lt_zero j), Below.refl _ _⟩
  case round =>
    obtain ⟨k, hk, rfl, hm, hb⟩ := hrel
    have hbs := hb.size
    by_cases hlt : k < xs.length
    · obtain ⟨b, off, rfl, hbl, hc1, hc2, hc3⟩ := hcell k hlt
      have hd1 := (hb.cell (p := ⟨b, off + k * 3, none⟩) hbl).trans hc1
      have hd2 := (hb.cell (p := ⟨b, off + k * 3 + 1, none⟩) hbl).trans hc2
      have hd3 := (hb.cell (p := ⟨b, off + k * 3 + 2, none⟩) hbl).trans hc3
      clear hc1 hc2 hc3 hcell
      have HE : Hid (badX xs[k] = ((decide (xs[k].1 = 1) && far (xs[k].1, xs[k].2.1, xs[k].2.2)) || (decide (xs[k].2.1 = spU) || decide (xs[k].2.2 = spU)))) := rfl
      have HFK := Lib.hid (HBAD.out k hlt)
      have HM : Hid (badX xs[k] = false → ∀ j (hj : j < xs.length), j < k + 1 → badX xs[j] = false) := by
        intro h j hj hjk
        rcases Nat.lt_succ_iff_lt_or_eq.1 hjk with h1 | h1
        · exact hm.out j hj h1
        · subst h1; exact h
      have HD := Lib.hid (fun W => l8Far_c xs[k].1 xs[k].2.1 xs[k].2.2 W)
      generalize xs[k].1 = x1 at *
      generalize xs[k].2.1 = x2 at *
      generalize xs[k].2.2 = x3 at *
      have HB2 : Hid ((x2.toList == [117]) = decide (x2 = spU)) := beq_u x2
      have HB3 : Hid ((x3.toList == [117]) = decide (x3 = spU)) := beq_u x3
      have hb1 : Below w.heap.size w (wr.alloc (.cells #[.int .i64 x1, .string x2, .string x3] 67)) := hb.alloc hbs _
      have hN1 : At (wr.alloc (.cells #[.int .i64 x1, .string x2, .string x3] 67)) wr.heap.size 67 #[.int .i64 x1, .string x2, .string x3] := At.new _ _ _
      have hs1 := hb1.size
      by_cases hk1 : x1 = 1
      · subst hk1
        generalize far (1, x2, x3) = f at *
        cases f with
        | true =>
          go_wp2_with (go_at_call 62; refine (HD.out _).mono ?_; rintro e w2 ⟨rfl, hb2⟩)
          have hB := hb1.trans (hb2.mono hs1)
          have hO := HE0 w2 hB.size
          go_ret2
          have HF := Lib.hid (HFK.out (by rw [HE.out]; rfl))
          exact ⟨_, by rw [HF.out]; rfl, by rw [HNO.out HF.out]; exact hO, hB.alloc hB.size _⟩
        | false =>
          rcases Bool.eq_false_or_eq_true (x2.toList == [117]) with h2 | h2
          · have HF := Lib.hid (HFK.out (by rw [HE.out, ← HB2.out, h2]; rfl))
            go_wp2_with fail
            refine (HD.out _).mono ?_
            rintro e w2 ⟨rfl, hb2⟩
            have hN2 := hN1.keep hb2
            have c1 : w2.cell? ⟨wr.heap.size, 1, none⟩ = some (.string x2) := hN2.cell 1
            have hB := hb1.trans (hb2.mono hs1)
            have hO := HE0 w2 hB.size
            clear hN1 hN2 hb2 hb1 hb hd1 hd2 hd3
            go_wp2
            go_ret2
            exact ⟨_, by rw [HF.out]; rfl, by rw [HNO.out HF.out]; exact hO, hB.alloc hB.size _⟩
          · rcases Bool.eq_false_or_eq_true (x3.toList == [117]) with h3 | h3
            · have HF := Lib.hid (HFK.out (by rw [HE.out, ← HB2.out, ← HB3.out, h2, h3]; rfl))
              go_wp2_with fail
              refine (HD.out _).mono ?_
              rintro e w2 ⟨rfl, hb2⟩
              have hN2 := hN1.keep hb2
              have c1 : w2.cell? ⟨wr.heap.size, 1, none⟩ = some (.string x2) := hN2.cell 1
              have c2 : w2.cell? ⟨wr.heap.size, 2, none⟩ = some (.string x3) := hN2.cell 2
              have hB := hb1.trans (hb2.mono hs1)
              have hO := HE0 w2 hB.size
              clear hN1 hN2 hb2 hb1 hb hd1 hd2 hd3
              go_wp2
              go_ret2
              exact ⟨_, by rw [HF.out]; rfl, by rw [HNO.out HF.out]; exact hO, hB.alloc hB.size _⟩
            · have HG := Lib.hid (HM.out (by rw [HE.out, ← HB2.out, ← HB3.out, h2, h3]; rfl))
              go_wp2_with fail
              refine (HD.out _).mono ?_
              rintro e w2 ⟨rfl, hb2⟩
              have hN2 := hN1.keep hb2
              have c1 : w2.cell? ⟨wr.heap.size, 1, none⟩ = some (.string x2) := hN2.cell 1
              have c2 : w2.cell? ⟨wr.heap.size, 2, none⟩ = some (.string x3) := hN2.cell 2
              have hB := hb1.trans (hb2.mono hs1)
              clear hN1 hN2 hb2 hb1 hb hd1 hd2 hd3
              go_wp2
              go_roundw
              case rel => exact ⟨k + 1, by omega, by go_num, HG.out, hB⟩
              case measure => simp [RowKit.intOf]; omega
      · have t1 : (x1 == 1) = false := by simpa using hk1
        have HK1 := Lib.hid hk1
        clear hk1
        rcases Bool.eq_false_or_eq_true (x2.toList == [117]) with h2 | h2
        · have HF := Lib.hid (HFK.out (by rw [HE.out, ← HB2.out, h2]; simp))
          have hO := HE0 _ hb1.size
          rw [World.size_alloc] at hO
          clear hN1
          go_wp2
          go_ret2
          exact ⟨_, by rw [HF.out]; rfl, by rw [HNO.out HF.out]; exact hO, hb1.alloc hb1.size _⟩
        · rcases Bool.eq_false_or_eq_true (x3.toList == [117]) with h3 | h3
          · have HF := Lib.hid (HFK.out (by rw [HE.out, ← HB2.out, ← HB3.out, h2, h3]; simp))
            have hO := HE0 _ hb1.size
            rw [World.size_alloc] at hO
            clear hN1
            go_wp2
            go_ret2
            exact ⟨_, by rw [HF.out]; rfl, by rw [HNO.out HF.out]; exact hO, hb1.alloc hb1.size _⟩
          · have HG := Lib.hid (HM.out (by rw [HE.out, ← HB2.out, ← HB3.out, h2, h3, decide_eq_false HK1.out]; rfl))
            clear hN1
            go_wp2
            go_roundw
            case rel => exact ⟨k + 1, by omega, by go_num, HG.out, hb1⟩
            case measure => simp [RowKit.intOf]; omega
    · have HMD := Lib.hid (HGD.out (fun j hj => hm.out j hj (by omega)))
      clear hcell
      go_wp2_with fail
      refine (HDC.out _ hb).mono ?_
      rintro e w2 ⟨v2, rfl, ho2, hb2⟩
      have hB2 := hb.trans (hb2.mono hbs)
      have hs2 := hB2.size
      have ho3 := own_more ho2 hbs
      clear ho2 hb2
      go_wp2_with fail
      refine (HSV.out xs _ _ (HX.out _ hB2)).mono ?_
      rintro e w3 ⟨rfl, hb3⟩
      have ho4 := own_keep ho3 hb3
      have hB3 := hB2.trans (hb3.mono hs2)
      have hs3 := hB3.size
      have hO := HE0 w3 hs3
      clear ho3 hb3
      rcases Bool.eq_false_or_eq_true (svalid xs) with h1 | h1
      · rw [h1]
        have hrd : RdS w3 v2 (mkD xs) := Rd.of_own ho4
        rcases Bool.eq_false_or_eq_true (svalid (mkD xs)) with h2 | h2
        · have HF : Hid (mdB xs = true) := by show _ = _; rw [HMD.out, h1, h2]; rfl
          have HY := Lib.hid (HYS.out HF.out)
          go_wp2_with (go_at_call 64; refine (HSV.out _ _ _ hrd).mono ?_; rintro e w4 ⟨rfl, hb4⟩; refine held ?_)
          unfold Held
          have ho5 := own_keep ho4 hb4
          have hB4 := hB3.trans (hb4.mono hs3)
          clear ho4 hb4 hrd hO h1 h2
          go_wp2
          go_ret2
          exact ⟨_, by rw [HF.out]; rfl, by rw [HY.out]; exact ho5, hB4⟩
        · have HF : Hid (mdB xs = false) := by show _ = _; rw [HMD.out, h1, h2]; rfl
          go_wp2_with (go_at_call 64; refine (HSV.out _ _ _ hrd).mono ?_; rintro e w4 ⟨rfl, hb4⟩; refine held ?_)
          unfold Held
          have hB4 := hB3.trans (hb4.mono hs3)
          have hO4 := HE0 w4 hB4.size
          clear ho4 hb4 hrd hO h1 h2
          go_wp2
          go_ret2
          exact ⟨_, by rw [HF.out]; rfl, by rw [HNO.out HF.out]; exact hO4, hB4.alloc hB4.size _⟩
      · rw [h1]
        have HF : Hid (mdB xs = false) := by show _ = _; rw [HMD.out, h1]; rfl
        clear ho4 h1
        go_wp2
        go_ret2
        exact ⟨_, by rw [HF.out]; rfl, by rw [HNO.out HF.out]; exact hO, hB3.alloc hB3.size _⟩
end Go.Proofs.Ytogkodjlbdlgjaa
