import Derived.Test.YtdhhmphnmllbhaaIm3
import Derived.Test.YtdhhmphnmllbhaaSpS2
import Derived.Test.YtdhhmphnmllbhaaNamesIn
namespace Go.PM
open Go.RowKit Go.Lib
def wrB (x : St) : ByteArray := if x.1 = 1 then x.2.1 ++ x.2.2 else x.2.1
theorem wrB_move (k : Int) (a b : ByteArray) (h : ¬ k = 1) : wrB (k, a, b) = a := if_neg h
theorem wrB_swap (a b : ByteArray) : wrB (1, a, b) = a ++ b := if_pos rfl
def wrL (xs : List St) : List UInt8 := xs.flatMap fun x => (wrB x).data.toList
def wrT (xs : List St) : ByteArray := ⟨(wrL xs).toArray⟩
theorem wrT_step (xs : List St) (k : Nat) (hk : k < xs.length) : wrT (xs.take k) ++ wrB xs[k] = wrT (xs.take (k + 1)) := by
  apply ByteArray.ext
  rw [ByteArray.data_append, wrT, wrT, take_snoc xs k hk]
  unfold wrL
  rw [List.flatMap_append]
  simp
theorem wrB_size {x : St} (h : stOk x = true) : (wrB x).size ≤ 2 := by
  obtain ⟨k, a, b⟩ := x
  rcases stOk_kind h with rfl | rfl
  · rw [wrB_move 0 a b (by decide)]
    have := isC_size (stOk_move h).1
    omega
  · rw [wrB_swap, ByteArray.size_append]
    have h1 := isC_size (stOk_swap h).1
    have h2 := isC_size (stOk_swap h).2
    omega
theorem wrT_size {xs : List St} (h : svalid xs = true) (k : Nat) : (wrT (xs.take k)).size ≤ 2 * k := by
  induction k with
  | zero => exact Nat.le_refl _
  | succ k ih =>
    by_cases hk : k < xs.length
    · rw [← wrT_step xs k hk, ByteArray.size_append]
      have := wrB_size (svalid_at h k hk)
      omega
    · rw [List.take_of_length_le (by omega)] at ih ⊢
      omega
def tcH (xs : List St) (p : Nat) : Bool := inTx cellsL (wrL xs) p
def tcB (xs : List St) : ByteArray := okS (svalid xs) (pickB cellsL (tcH xs) 11)
/-- the spec's test of one step -/
def tq (p : Nat) : ByteArray := ⟨#[cellsL.getD p 0]⟩
def tcX (p : Nat) (x : St) : Bool := decide (x.2.1 = tq p) || (decide (x.1 = 1) && decide (x.2.2 = tq p))
def tcI (xs : List St) (p k : Nat) : Bool := (xs.take k).any (tcX p)
theorem tcI_zero (xs : List St) (p : Nat) : tcI xs p 0 = false := by simp [tcI]
theorem tcI_succ (xs : List St) (p k : Nat) (hk : k < xs.length) : tcI xs p (k + 1) = (tcI xs p k || tcX p xs[k]) := by
  unfold tcI; rw [take_snoc xs k hk, List.any_append]; simp
theorem mem_one {a : ByteArray} (h : a.size = 1) (p : Nat) : cellsL.getD p 0 ∈ a.data.toList ↔ a = tq p := by
  obtain ⟨c, rfl⟩ := one_of_size h
  constructor
  · intro h'
    simp at h'
    rw [tq, ← h']; simp
  · intro h'
    rw [h']; simp [tq]
theorem tcI_full {xs : List St} (h : svalid xs = true) (p : Nat) : tcI xs p xs.length = tcH xs p := by
  unfold tcI tcH inTx
  rw [List.take_length, Bool.eq_iff_iff, List.any_eq_true, decide_eq_true_eq, wrL, List.mem_flatMap]
  have key : ∀ x ∈ xs, tcX p x = true ↔ cellsL.getD p 0 ∈ (wrB x).data.toList := fun x hx => by
    obtain ⟨k, hk, rfl⟩ := List.getElem_of_mem hx
    have hv := svalid_at h k hk
    generalize xs[k] = y at *
    obtain ⟨k, a, b⟩ := y
    rcases stOk_kind hv with rfl | rfl
    · rw [wrB_move 0 a b (by decide), mem_one (isC_size (stOk_move hv).1)]
      simp [tcX]
    · rw [wrB_swap]
      have h1 := mem_one (isC_size (stOk_swap hv).1) p
      have h2 := mem_one (isC_size (stOk_swap hv).2) p
      simp only [ByteArray.data_append, Array.toList_append, List.mem_append, h1, h2]
      simp [tcX]
  constructor
  · rintro ⟨x, hx, e⟩; exact ⟨x, hx, (key x hx).1 e⟩
  · rintro ⟨x, hx, e⟩; exact ⟨x, hx, (key x hx).2 e⟩
end Go.PM
namespace Go.Proofs.Ytdhhmphnmllbhaa
open Go.RowKit Go.PM

theorem writes_c (k : Int) (a b : ByteArray) (ha : a.size ≤ 100) (hb : b.size ≤ 100) (w : World) :
    Calls Try.prog 80 #[.agg #[.int .i64 k, .string a, .string b]] w fun e w' => e = .returned (.string (wrB (k, a, b))) ∧ Below w.heap.size w w' := by
  by_cases h : k = 1
  · subst h
    have HW := Lib.hid (wrB_swap a b)
    go_enter Try.func80, Try.ntmps80
    go_wp2
    go_ret
    exact ⟨by rw [HW.out]; rfl, by (repeat' (first | (with_reducible exact Below.refl _ _) | (with_reducible assumption) | (with_reducible refine Below.alloc ?_ ?_ _) | (with_reducible refine Below.drew ?_) | (with_reducible refine Below.setCell ?_ ?_ _) | (with_reducible exact Nat.le_refl _) | omega | ((repeat (first | rewrite [World.size_alloc] | rewrite [World.size_setCell] | rewrite [World.size_drew])); omega) | (simp; omega) | (simp; done)))⟩
  · have HW := Lib.hid (wrB_move k a b h)
    have t1 : (k == 1) = false := by simpa using h
    clear h
    go_enter Try.func80, Try.ntmps80
    go_wp2
    go_ret
    exact ⟨by rw [HW.out]; rfl, by (repeat' (first | (with_reducible exact Below.refl _ _) | (with_reducible assumption) | (with_reducible refine Below.alloc ?_ ?_ _) | (with_reducible refine Below.drew ?_) | (with_reducible refine Below.setCell ?_ ?_ _) | (with_reducible exact Nat.le_refl _) | omega | ((repeat (first | rewrite [World.size_alloc] | rewrite [World.size_setCell] | rewrite [World.size_drew])); omega) | (simp; omega) | (simp; done)))⟩
set_option maxRecDepth 100000 in
set_option maxHeartbeats 1000000 in
theorem imTouchedBy_c (xs : List St) (v : Value) (w : World) (hx : RdS w v xs) :
    Calls Try.prog 34 #[v] w fun e w' => e = .returned (.tuple #[.string (tcB xs), .bool (svalid xs)]) ∧ Below w.heap.size w w' := by
  have hsv := Lib.hid (imSequenceValid_c xs v w hx)
  rcases Bool.eq_false_or_eq_true (svalid xs) with h1 | h1
  · have HT : Hid (tcB xs = pickB cellsL (tcH xs) 11) := by show _ = _; rw [tcB, h1]; rfl
    have HSZ := Lib.hid (fun k => wrT_size h1 k)
    have HST := Lib.hid (fun k hk => wrT_step xs k hk)
    have HOK := Lib.hid (fun k hk => svalid_at h1 k hk)
    have hlen := svalid_len h1
    have HPL : ∀ W, Calls Try.prog 44 #[.string ⟨#[97, 98, 99, 100, 101, 102, 65, 66, 67, 116, 117]⟩, .string (wrT xs)] W fun e w' => e = .returned (.string (tcB xs)) ∧ W = w' := fun W => by
      have := namesIn_c cellsB (wrT xs) (by decide) W
      rw [HT.out]
      have e : inTx cellsB.data.toList (wrT xs).data.toList = tcH xs := by funext p; simp [inTx, tcH, wrT, cellsB, cellsL]
      rw [e] at this
      exact this
    have HPL2 := Lib.hid HPL
    have H1 := Lib.hid h1
    clear h1 HPL
    go_enter Try.func34, Try.ntmps34
    go_wp2_with fail
    refine hsv.out.mono ?_
    rintro e w1 ⟨rfl, hb1⟩
    rw [H1.out]
    have hs1 := hb1.size
    have hx1 := hx.below hb1
    obtain ⟨A, cap, rfl, hn, hc, hcell⟩ := hx1.open
    clear hx1
    go_wp2
    go_loopw [4, 6, 12] (fun o _ i wr => ∃ (k : Nat), k ≤ xs.length ∧ i = .int .i64 k ∧ o = .string (wrT (xs.take k)) ∧ Below w1.heap.size w1 wr) (fun _ _ i _ => xs.length - (intOf i).toNat)
    case atStart => exact ⟨0, by omega, rfl, rfl, Below.refl _ _⟩
    case round =>
      obtain ⟨k, hk, rfl, rfl, hb⟩ := hrel
      have hbs := hb.size
      by_cases hlt : k < xs.length
      · obtain ⟨b, off, rfl, hbl, hc1, hc2, hc3⟩ := hcell k hlt
        have hd1 := (hb.cell (p := ⟨b, off + k * 3, none⟩) hbl).trans hc1
        have hd2 := (hb.cell (p := ⟨b, off + k * 3 + 1, none⟩) hbl).trans hc2
        have hd3 := (hb.cell (p := ⟨b, off + k * 3 + 2, none⟩) hbl).trans hc3
        clear hc1 hc2 hc3 hcell
        have hsz := HSZ.out k
        have hok : stOk (xs[k].1, xs[k].2.1, xs[k].2.2) = true := HOK.out k hlt
        have hst : wrT (xs.take k) ++ wrB (xs[k].1, xs[k].2.1, xs[k].2.2) = wrT (xs.take (k + 1)) := HST.out k hlt
        generalize xs[k].1 = x1 at *
        generalize xs[k].2.1 = x2 at *
        generalize xs[k].2.2 = x3 at *
        have hwz := wrB_size hok
        have hz2 : x2.size ≤ 100 ∧ x3.size ≤ 100 := by
          rcases stOk_kind hok with rfl | rfl
          · have h2 := isC_size (stOk_move hok).1
            have h3 := okC_size (stOk_move hok).2
            omega
          · have h2 := isC_size (stOk_swap hok).1
            have h3 := isC_size (stOk_swap hok).2
            omega
        have hw := fun W => writes_c x1 x2 x3 hz2.1 hz2.2 W
        have HST2 := Lib.hid hst
        clear hst hok hz2
        generalize wrB (x1, x2, x3) = q at *
        generalize wrT (xs.take k) = tk at *
        go_wp2_with fail
        refine (hw _).mono ?_
        rintro e w2 ⟨rfl, hb2⟩
        have hb3 : Below w1.heap.size w1 w2 := (hb.alloc hbs _).trans (hb2.mono (by simp; omega))
        go_wp2
        go_roundw
        case rel => exact ⟨k + 1, by omega, by go_num, by rw [← HST2.out], hb3⟩
        case measure => simp [intOf]; omega
      · have hk' : k = xs.length := by omega
        have HE : Hid (wrT (xs.take k) = wrT xs) := by show _ = _; rw [hk', List.take_length]
        rw [HE.out]
        clear hcell
        go_wp2_with (go_at_call 44; refine (HPL2.out _).mono ?_; rintro e w' ⟨rfl, rfl⟩)
        go_ret2
        exact ⟨by rw [H1.out]; rfl, hb1.trans (hb.mono hs1)⟩
  · have HT : Hid (tcB xs = ⟨#[]⟩) := by show _ = _; rw [tcB, h1]; rfl
    have H1 := Lib.hid h1
    clear h1
    go_enter Try.func34, Try.ntmps34
    go_wp2_with fail
    refine hsv.out.mono ?_
    rintro e w1 ⟨rfl, hb1⟩
    rw [H1.out]
    go_wp2
    go_ret2
    exact ⟨by rw [H1.out, HT.out]; rfl, hb1⟩
set_option maxRecDepth 100000 in
set_option maxHeartbeats 2000000 in
theorem spTouchedBy_c (xs : List St) (v : Value) (w : World) (hx : RdS w v xs) :
    Calls Try.prog 35 #[v] w fun e w' => e = .returned (.tuple #[.string (tcB xs), .bool (svalid xs)]) ∧ Below w.heap.size w w' := by
  have HQ : Hid (∀ q, q < 11 → (ByteArray.mk #[97, 98, 99, 100, 101, 102, 65, 66, 67, 116, 117]).extract q (q+1) = tq q) := fun q hq => extract_one cellsB q hq
  have hsv := Lib.hid (spSequenceValid_c xs v w hx)
  rcases Bool.eq_false_or_eq_true (svalid xs) with h1 | h1
  · have HT : Hid (tcB xs = pickB cellsL (tcH xs) 11) := by show _ = _; rw [tcB, h1]; rfl
    have HF := Lib.hid (fun p => tcI_full h1 p)
    have HIS := Lib.hid (fun p k hk => tcI_succ xs p k hk)
    have HPS := Lib.hid (fun k => pickB_succ cellsL (tcH xs) k)
    have HPZ := Lib.hid (fun k => pickB_size cellsL (tcH xs) k)
    have HP0 : Hid (pickB cellsL (tcH xs) 0 = ⟨#[]⟩) := rfl
    have H1 := Lib.hid h1
    clear h1
    go_enter Try.func35, Try.ntmps35
    go_wp2_with fail
    refine hsv.out.mono ?_
    rintro e w1 ⟨rfl, hb1⟩
    rw [H1.out]
    have hs1 := hb1.size
    have hx1 := hx.below hb1
    obtain ⟨A, cap, rfl, hn, hc, hcell⟩ := hx1.open
    clear hx1
    go_wp2
    go_loopw [4, 12] (fun o i wr => ∃ (k : Nat), k ≤ 11 ∧ i = .int .i64 k ∧ o = .string (pickB cellsL (tcH xs) k) ∧ Below w1.heap.size w1 wr) (fun _ i _ => 11 - (intOf i).toNat)
    case atStart => exact ⟨0, by omega, rfl, by rw [HP0.out], Below.refl _ _⟩
    case round =>
      obtain ⟨k, hk, rfl, rfl, hb⟩ := hrel
      have hbs := hb.size
      by_cases hlt : k < 11
      · have hex := HQ.out k hlt
        have hsz := HPZ.out k
        have hns : (tq k).size = 1 := rfl
        have HY := Lib.hid (HPS.out k)
        have HFk := Lib.hid (HF.out k)
        have HISk := Lib.hid (HIS.out k)
        have HI0 := Lib.hid (tcI_zero xs k)
        have HTQ : Hid ((⟨#[cellsL.getD k 0]⟩ : ByteArray) = tq k) := rfl
        have HTC : Hid (∀ x : St, tcX k x = (decide (x.2.1 = tq k) || (decide (x.1 = 1) && decide (x.2.2 = tq k)))) := fun _ => rfl
        rw [HTQ.out] at HY
        generalize pickB cellsL (tcH xs) k = tk at *
        generalize tq k = q at *
        go_wp2
        have e9 : decide ((k : Int) < 11) = true := decide_eq_true (by omega)
        try rw [e9]
        clear e9
        go_loopw [6, 8, 17] (fun o _ i wr => ∃ (j : Nat), j ≤ xs.length ∧ i = .int .i64 j ∧ o = .bool (tcI xs k j) ∧ Below w1.heap.size w1 wr) (fun _ _ i _ => xs.length - (intOf i).toNat)
        case atStart => exact ⟨0, by omega, rfl, by rw [HI0.out], hb⟩
        case round =>
          obtain ⟨j, hj, rfl, rfl, hb⟩ := hrel
          have hbs := hb.size
          by_cases hlt2 : j < xs.length
          · obtain ⟨b, off, rfl, hbl, hc1, hc2, hc3⟩ := hcell j hlt2
            have hd1 := (hb.cell (p := ⟨b, off + j * 3, none⟩) hbl).trans hc1
            have hd2 := (hb.cell (p := ⟨b, off + j * 3 + 1, none⟩) hbl).trans hc2
            have hd3 := (hb.cell (p := ⟨b, off + j * 3 + 2, none⟩) hbl).trans hc3
            clear hc1 hc2 hc3 hcell
            have hst : tcI xs k (j + 1) = (tcI xs k j || tcX k (xs[j].1, xs[j].2.1, xs[j].2.2)) := HISk.out j hlt2
            rw [HTC.out] at hst
            generalize xs[j].1 = x1 at *
            generalize xs[j].2.1 = x2 at *
            generalize xs[j].2.2 = x3 at *
            have HS := Lib.hid hst
            clear hst
            have hxa : ∀ x : Ext (wr.heap.size + 1) (wr.alloc (.cells #[.int .i64 x1, .string x2, .string x3] 103)), x.val.cell? ⟨wr.heap.size, 0, none⟩ = some (.int .i64 x1) := fun x =>
              (x.property.cell (p := ⟨wr.heap.size, 0, none⟩) (by simp)).trans ((At.new wr 103 #[.int .i64 x1, .string x2, .string x3]).cell 0)
            have hxb : ∀ x : Ext (wr.heap.size + 1) (wr.alloc (.cells #[.int .i64 x1, .string x2, .string x3] 103)), x.val.cell? ⟨wr.heap.size, 1, none⟩ = some (.string x2) := fun x =>
              (x.property.cell (p := ⟨wr.heap.size, 1, none⟩) (by simp)).trans ((At.new wr 103 #[.int .i64 x1, .string x2, .string x3]).cell 1)
            have hxc : ∀ x : Ext (wr.heap.size + 1) (wr.alloc (.cells #[.int .i64 x1, .string x2, .string x3] 103)), x.val.cell? ⟨wr.heap.size, 2, none⟩ = some (.string x3) := fun x =>
              (x.property.cell (p := ⟨wr.heap.size, 2, none⟩) (by simp)).trans ((At.new wr 103 #[.int .i64 x1, .string x2, .string x3]).cell 2)
            generalize tcI xs k j = rj at *
            rcases rj with _ | _
            · rcases Bool.eq_false_or_eq_true (x2.toList == q.toList) with hd | hd
              · have HD : Hid (x2 = q) := by rw [beq_str, decide_eq_true_eq] at hd; exact hd
                · go_wp2
                  refine wp_region_ext (wr.heap.size + 1) (by kernel_rfl) (by kernel_rfl) ?_
                  repeat (go_big_quiet_step (fail))
                  refine wpQuiet_nil ?_
                  intro w2 hw'
                  obtain ⟨xw, hxw⟩ := hw'
                  have hb2 := xw.property
                  rw [← hxw] at hb2
                  clear hxw xw hxa hxb hxc hd1 hd2 hd3
                  have hb3 : Below w1.heap.size w1 w2 := (hb.alloc hbs _).trans (hb2.mono (by omega))
                  go_wp2
                  go_roundw
                  case rel => exact ⟨j + 1, by omega, by go_num, by rw [HS.out]; rw [decide_eq_true HD.out]; rfl, hb3⟩
                  case measure => simp [intOf]; omega
              · have HD : Hid (x2 ≠ q) := by rw [beq_str, decide_eq_false_iff_not] at hd; exact hd
                by_cases hk1 : x1 = 1
                · subst hk1
                  have HE : Hid ((x3.toList == q.toList) = decide (x3 = q)) := beq_str _ _
                  go_wp2
                  refine wp_region_ext (wr.heap.size + 1) (by kernel_rfl) (by kernel_rfl) ?_
                  repeat (go_big_quiet_step (fail))
                  refine wpQuiet_nil ?_
                  intro w2 hw'
                  obtain ⟨xw, hxw⟩ := hw'
                  have hb2 := xw.property
                  rw [← hxw] at hb2
                  clear hxw xw hxa hxb hxc hd1 hd2 hd3
                  have hb3 : Below w1.heap.size w1 w2 := (hb.alloc hbs _).trans (hb2.mono (by omega))
                  go_wp2
                  go_roundw
                  case rel => exact ⟨j + 1, by omega, by go_num, by rw [HS.out]; rw [decide_eq_false HD.out, HE.out]; simp, hb3⟩
                  case measure => simp [intOf]; omega
                · have t1 : (x1 == 1) = false := by simpa using hk1
                  have HK := Lib.hid hk1
                  clear hk1
                  go_wp2
                  refine wp_region_ext (wr.heap.size + 1) (by kernel_rfl) (by kernel_rfl) ?_
                  repeat (go_big_quiet_step (fail))
                  refine wpQuiet_nil ?_
                  intro w2 hw'
                  obtain ⟨xw, hxw⟩ := hw'
                  have hb2 := xw.property
                  rw [← hxw] at hb2
                  clear hxw xw hxa hxb hxc hd1 hd2 hd3
                  have hb3 : Below w1.heap.size w1 w2 := (hb.alloc hbs _).trans (hb2.mono (by omega))
                  go_wp2
                  go_roundw
                  case rel => exact ⟨j + 1, by omega, by go_num, by rw [HS.out]; rw [decide_eq_false HD.out, decide_eq_false HK.out]; rfl, hb3⟩
                  case measure => simp [intOf]; omega
            · have HE : Hid (∀ b : Bool, (true || b) = true) := fun b => rfl
              · · go_wp2
                  refine wp_region_ext (wr.heap.size + 1) (by kernel_rfl) (by kernel_rfl) ?_
                  repeat (go_big_quiet_step (fail))
                  refine wpQuiet_nil ?_
                  intro w2 hw'
                  obtain ⟨xw, hxw⟩ := hw'
                  have hb2 := xw.property
                  rw [← hxw] at hb2
                  clear hxw xw hxa hxb hxc hd1 hd2 hd3
                  have hb3 : Below w1.heap.size w1 w2 := (hb.alloc hbs _).trans (hb2.mono (by omega))
                  go_wp2
                  go_roundw
                  case rel => exact ⟨j + 1, by omega, by go_num, by rw [HS.out]; rw [HE.out], hb3⟩
                  case measure => simp [intOf]; omega
          · have hj' : j = xs.length := by omega
            rw [hj', HFk.out]
            generalize tcH xs k = rk at *
            rcases rk with _ | _
            · go_wp2
              go_roundw
              case rel => exact ⟨k + 1, by omega, by go_num, by rw [HY.out]; rfl, hb⟩
              case measure => simp [intOf]; omega
            · go_wp2
              go_roundw
              case rel => exact ⟨k + 1, by omega, by go_num, by rw [HY.out]; rfl, hb⟩
              case measure => simp [intOf]; omega
      · have hk9 : k = 11 := by omega
        subst hk9
        go_wp2
        go_ret2
        exact ⟨by rw [H1.out, HT.out]; rfl, hb1.trans (hb.mono hs1)⟩
  · have HT : Hid (tcB xs = ⟨#[]⟩) := by show _ = _; rw [tcB, h1]; rfl
    have H1 := Lib.hid h1
    clear h1
    go_enter Try.func35, Try.ntmps35
    go_wp2_with fail
    refine hsv.out.mono ?_
    rintro e w1 ⟨rfl, hb1⟩
    rw [H1.out]
    go_wp2
    go_ret2
    exact ⟨by rw [H1.out, HT.out]; rfl, hb1⟩
end Go.Proofs.Ytdhhmphnmllbhaa
