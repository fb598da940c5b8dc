import Derived.Test.YtbgchjjaaelkbaaCnt
import Derived.Test.YtbgchjjaaelkbaaHold
import Derived.Test.YtbgchjjaaelkbaaSp1
namespace Go.PM
open Go.RowKit
/-- a move that changes what a later one reads -/
def BadO (x m : Mv) : Prop := x.1 = m.2 ∧ x.2 ≠ m.2 ∧ isD m.2 = false
instance (x m : Mv) : Decidable (BadO x m) := inferInstanceAs (Decidable (_ ∧ _))
def GoodO (xs : List Mv) : Prop := xs.Pairwise fun x m => ¬ BadO x m
instance (xs : List Mv) : Decidable (GoodO xs) := inferInstanceAs (Decidable (List.Pairwise _ _))
def ordB (xs : List Mv) : Bool := mvalid xs && decide (GoodO xs)
theorem GoodO_step (xs : List Mv) (k : Nat) (hk : k < xs.length) : GoodO (xs.take (k + 1)) ↔ GoodO (xs.take k) ∧ ∀ x ∈ xs.take k, ¬ BadO x xs[k] := by
  unfold GoodO
  rw [take_snoc xs k hk, List.pairwise_append]
  simp
theorem GoodO_take {xs : List Mv} (h : GoodO xs) (k : Nat) : GoodO (xs.take k) := List.Pairwise.sublist (List.take_sublist _ _) h
theorem ordB_no {xs : List Mv} {k : Nat} (h : ¬ GoodO (xs.take k)) : ordB xs = false := by
  unfold ordB
  rw [decide_eq_false (fun hg => h (GoodO_take hg k)), Bool.and_false]
/-- which places the moves change -/
def chgF (xs : List Mv) (q : Nat) : Bool := xs.any fun x => decide (x.1 = nm q ∧ x.1 ≠ x.2)
def boolC (f : Nat → Bool) : Array Value := #[.bool (f 0), .bool (f 1), .bool (f 2), .bool (f 3), .bool (f 4), .bool (f 5), .bool (f 6), .bool (f 7), .bool (f 8)]
theorem boolC_at (f : Nat → Bool) (p : Nat) (hp : p < 9) : (boolC f)[p]? = some (.bool (f p)) := by
  match p, hp with
  | 0, _ | 1, _ | 2, _ | 3, _ | 4, _ | 5, _ | 6, _ | 7, _ | 8, _ => rfl
theorem boolC_set (f : Nat → Bool) (p : Nat) (hp : p < 9) (b : Bool) : (boolC f).setIfInBounds p (.bool b) = boolC (fun q => if q = p then b else f q) := by
  match p, hp with
  | 0, _ | 1, _ | 2, _ | 3, _ | 4, _ | 5, _ | 6, _ | 7, _ | 8, _ => simp [boolC]
theorem boolC_congr {f g : Nat → Bool} (h : ∀ p, p < 9 → f p = g p) : boolC f = boolC g := by
  unfold boolC
  rw [h 0 (by omega), h 1 (by omega), h 2 (by omega), h 3 (by omega), h 4 (by omega), h 5 (by omega), h 6 (by omega), h 7 (by omega), h 8 (by omega)]
theorem chgF_step {xs : List Mv} (h : MV xs) (k : Nat) (hk : k < xs.length) : boolC (fun q => if q = pidx xs[k].1 then decide (xs[k].1 ≠ xs[k].2) else chgF (xs.take k) q) = boolC (chgF (xs.take (k + 1))) := by
  have hm := h.1 _ (List.getElem_mem hk)
  unfold mok at hm; rw [Bool.and_eq_true] at hm
  have hp := pidx_spec hm.1
  have hkey := ((MV_step k hk).1 (MV_take h (k + 1))).2.2
  refine boolC_congr fun q hq => ?_
  unfold chgF
  rw [take_snoc xs k hk, List.any_append, List.any_cons, List.any_nil, Bool.or_false]
  by_cases e : q = pidx xs[k].1
  · subst e
    rw [if_pos rfl, hp.2]
    have h0 : (xs.take k).any (fun x => decide (x.1 = xs[k].1 ∧ x.1 ≠ x.2)) = false := by
      rw [List.any_eq_false]
      intro x hx e2
      rw [decide_eq_true_eq] at e2
      exact hkey (List.mem_map.2 ⟨x, hx, e2.1⟩)
    rw [h0, Bool.false_or, decide_eq_decide]
    exact ⟨fun h => ⟨rfl, h⟩, fun h => h.2⟩
  · rw [if_neg e]
    have : decide (xs[k].1 = nm q ∧ xs[k].1 ≠ xs[k].2) = false := by
      rw [decide_eq_false_iff_not]
      intro h2
      exact e (by rw [h2.1, pidx_nm hq])
    rw [this, Bool.or_false]
theorem chg_bad {xs : List Mv} (k : Nat) (hk : k < xs.length) (hp : isP xs[k].2 = true) (hc : chgF (xs.take k) (pidx xs[k].2) = true) : ¬ GoodO (xs.take (k + 1)) := by
  rw [GoodO_step xs k hk]
  rintro ⟨_, h⟩
  unfold chgF at hc
  rw [(pidx_spec hp).2, List.any_eq_true] at hc
  obtain ⟨x, hx, e⟩ := hc
  rw [decide_eq_true_eq] at e
  exact h x hx ⟨e.1, fun e2 => e.2 (e.1.trans e2.symm), (isP_cases hp).1⟩
theorem chg_good {xs : List Mv} (k : Nat) (hk : k < xs.length) (hg : GoodO (xs.take k)) (hc : isP xs[k].2 = true → chgF (xs.take k) (pidx xs[k].2) = false) (hs : isS xs[k].2 = true) : GoodO (xs.take (k + 1)) := by
  rw [GoodO_step xs k hk]
  refine ⟨hg, fun x hx hb => ?_⟩
  unfold isS at hs
  rw [Bool.or_eq_true] at hs
  rcases hs with hp | hd
  · have := hc hp
    unfold chgF at this
    rw [(pidx_spec hp).2, List.any_eq_false] at this
    exact this x hx (by rw [decide_eq_true_eq]; exact ⟨hb.1, fun e => hb.2.1 (e.symm.trans hb.1)⟩)
  · rw [hb.2.2] at hd; cases hd
end Go.PM
namespace Go.Proofs.Ytbgchjjaaelkbaa
open Go.RowKit Go.PM

set_option maxRecDepth 100000 in
set_option maxHeartbeats 1600000 in
theorem imIsOrdered_c (xs : List Mv) (v : Value) (w : World) (hx : RdM w v xs) :
    Calls Try.prog 48 #[v] w fun e w' => e = .returned (.bool (ordB xs)) ∧ Below w.heap.size w w' := by
  have HMV := Lib.hid (imMovesValid_c xs v w hx)
  obtain ⟨A, cap, rfl, hn, hc, hcell⟩ := hx.open
  clear hx
  rcases Bool.eq_false_or_eq_true (mvalid xs) with hm | hm
  · have h1 : MV xs := by simpa [mvalid] using hm
    have HON := Lib.hid (fun k h => ordB_no (xs := xs) (k := k) h)
    have HOY : Hid (GoodO xs → ordB xs = true) := fun h => by unfold ordB; rw [hm, decide_eq_true h]; rfl
    have HST := Lib.hid (fun k hk => chgF_step h1 k hk)
    have HP := Lib.hid (fun m hmm => by have := h1.1 m hmm; unfold mok at this; rw [Bool.and_eq_true] at this; exact this : ∀ m ∈ xs, isP m.1 = true ∧ isS m.2 = true)
    have hz : (#[.bool false, .bool false, .bool false, .bool false, .bool false, .bool false, .bool false, .bool false, .bool false] : Array Value) = boolC (chgF []) := rfl
    have hcall := HMV.out
    rw [hm] at hcall
    clear h1 hm HMV
    go_enter Try.func48, Try.ntmps48
    go_wp2_with fail
    refine hcall.mono ?_
    rintro e w1 ⟨rfl, hb1⟩
    have hs1 := hb1.size
    have hA1 := At.new w1 112 (boolC (chgF []))
    have hB1 := hb1.alloc hs1 (.cells (boolC (chgF [])) 112)
    go_wp2
    clear hz hcall
    go_loopw [5, 6, 7, 8, 9, 15] (fun _ _ _ _ _ i wr => ∃ (k : Nat), k ≤ xs.length ∧ i = .int .i64 k ∧ Below w.heap.size w wr ∧ At wr w1.heap.size 112 (boolC (chgF (xs.take k))) ∧ Hid (GoodO (xs.take k))) (fun _ _ _ _ _ i _ => xs.length - (RowKit.intOf i).toNat)
    case atStart => exact ⟨0, by omega, rfl, hB1, by simpa using hA1, by show GoodO _; simp [GoodO]⟩
    case round =>
      obtain ⟨k, hk, rfl, hb, hA2, hgd⟩ := hrel
      have hbs := hb.size
      have hlt4 := hA2.lt
      clear hA1 hB1
      by_cases hlt : k < xs.length
      · obtain ⟨b, off, rfl, hbl, hc1, hc2⟩ := hcell k hlt
        have hd1 := (hb.cell (p := ⟨b, off + k * 2, none⟩) hbl).trans hc1
        have hd2 := (hb.cell (p := ⟨b, off + k * 2 + 1, none⟩) hbl).trans hc2
        clear hc1 hc2 hcell
        have hP1 := (HP.out _ (List.getElem_mem hlt)).1
        have hS2 := (HP.out _ (List.getElem_mem hlt)).2
        have hp1 := (pidx_spec hP1).1
        have HI1 := Lib.hid (fun W => indexOf_yes _ hP1 W)
        have HCB := Lib.hid (fun hp hc => HON.out (k + 1) (chg_bad (xs := xs) k hlt hp hc))
        have HCG := Lib.hid (fun hc => chg_good (xs := xs) k hlt hgd.out hc hS2)
        have hstep := (boolC_set (chgF (xs.take k)) (pidx xs[k].1) hp1 (decide (xs[k].1 ≠ xs[k].2))).trans (HST.out k hlt)
        have HSTEP := Lib.hid hstep
        have HNE : Hid (decide (xs[k].1 ≠ xs[k].2) = !(xs[k].1.toList == xs[k].2.toList)) := by show _ = _; rw [bne_str]
        have hN := hA2.alloc (.cells #[.string xs[k].1, .string xs[k].2] 33)
        have hat := boolC_at (chgF (xs.take k))
        have i0 : (0 : Int) ≤ (pidx xs[k].1 : Int) := by omega
        have i1 : (pidx xs[k].1 : Int) < 9 := by omega
        clear hP1 hS2 hstep
        generalize xs[k].1 = x1 at *
        generalize hx2 : xs[k].2 = x2 at *
        clear hx2
        generalize pidx x1 = q1 at *
        have c1 := (hN.cell q1).trans (hat q1 hp1)
        have z1 := hN.frozen q1
        rcases Bool.eq_false_or_eq_true (isP x2) with hp2 | hp2
        · have hq9 := (pidx_spec hp2).1
          have HI2 := Lib.hid (fun W => indexOf_yes _ hp2 W)
          have j0 : (0 : Int) ≤ (pidx x2 : Int) := by omega
          have j1 : (pidx x2 : Int) < 9 := by omega
          have c2 := (hN.cell (pidx x2)).trans (hat _ hq9)
          have HCB2 := Lib.hid (HCB.out hp2)
          have HCG2 := Lib.hid (fun h => HCG.out (fun _ => h))
          clear HCB HCG
          generalize pidx x2 = q2 at *
          generalize chgF (xs.take k) q2 = cq at *
          cases cq with
          | true =>
            have HF := Lib.hid (HCB2.out rfl)
            go_wp2_with (go_at_call 103; with_reducible refine (HI2.out _).mono ?_; rintro e w' ⟨rfl, rfl⟩)
            go_ret
            exact ⟨by rw [HF.out]; rfl, by (repeat' (first | (with_reducible exact Below.refl _ _) | (with_reducible assumption) | (with_reducible refine Below.alloc ?_ ?_ _) | (with_reducible refine Below.drew ?_) | (with_reducible refine Below.setCell ?_ ?_ _) | (with_reducible exact Nat.le_refl _) | omega | ((repeat (first | rewrite [World.size_alloc] | rewrite [World.size_setCell] | rewrite [World.size_drew])); omega) | (simp; omega) | (simp; done)))⟩
          | false =>
            have HG := HCG2.out rfl
            go_wp2_with (first | (go_at_call 103; with_reducible refine (HI2.out _).mono ?_; rintro e w' ⟨rfl, rfl⟩) | (go_at_call 103; with_reducible refine (HI1.out _).mono ?_; rintro e w' ⟨rfl, rfl⟩))
            go_roundw
            case rel =>
              refine ⟨k + 1, by omega, by go_num, by (repeat' (first | (with_reducible exact Below.refl _ _) | (with_reducible assumption) | (with_reducible refine Below.alloc ?_ ?_ _) | (with_reducible refine Below.drew ?_) | (with_reducible refine Below.setCell ?_ ?_ _) | (with_reducible exact Nat.le_refl _) | omega | ((repeat (first | rewrite [World.size_alloc] | rewrite [World.size_setCell] | rewrite [World.size_drew])); omega) | (simp; omega) | (simp; done))), ?_, HG⟩
              rw [← HSTEP.out, HNE.out]
              exact (hA2.set q1 _).alloc _
            case measure => simp [RowKit.intOf]; omega
        · have HI2 := Lib.hid (fun W => indexOf_no _ hp2 W)
          have HG := HCG.out (fun h => by rw [hp2] at h; cases h)
          go_wp2_with (first | (go_at_call 103; with_reducible refine (HI2.out _).mono ?_; rintro e w' ⟨rfl, rfl⟩) | (go_at_call 103; with_reducible refine (HI1.out _).mono ?_; rintro e w' ⟨rfl, rfl⟩))
          go_roundw
          case rel =>
            refine ⟨k + 1, by omega, by go_num, by (repeat' (first | (with_reducible exact Below.refl _ _) | (with_reducible assumption) | (with_reducible refine Below.alloc ?_ ?_ _) | (with_reducible refine Below.drew ?_) | (with_reducible refine Below.setCell ?_ ?_ _) | (with_reducible exact Nat.le_refl _) | omega | ((repeat (first | rewrite [World.size_alloc] | rewrite [World.size_setCell] | rewrite [World.size_drew])); omega) | (simp; omega) | (simp; done))), ?_, HG⟩
            rw [← HSTEP.out, HNE.out]
            exact (hA2.set q1 _).alloc _
          case measure => simp [RowKit.intOf]; omega
      · have hk' : k = xs.length := by omega
        have hgg := hgd.out
        rw [hk', List.take_of_length_le (Nat.le_refl _)] at hgg
        have HT := Lib.hid (HOY.out hgg)
        clear hgg hk' hcell
        go_wp2
        go_ret
        exact ⟨by rw [HT.out]; rfl, hb⟩
  · have HF : Hid (ordB xs = false) := by show _ = _; unfold ordB; rw [hm]; rfl
    have hcall := HMV.out
    rw [hm] at hcall
    clear HMV hcell
    go_enter Try.func48, Try.ntmps48
    go_wp2_with fail
    refine hcall.mono ?_
    rintro e w1 ⟨rfl, hb1⟩
    clear hcall
    go_wp2
    go_ret
    exact ⟨by rw [HF.out]; rfl, hb1⟩
set_option maxRecDepth 100000 in
set_option maxHeartbeats 1600000 in
theorem spIsOrdered_c (xs : List Mv) (v : Value) (w : World) (hx : RdM w v xs) (hz : ∀ m ∈ xs, m.1.size ≤ 9223372036854775807 ∧ m.2.size ≤ 9223372036854775807) (hn' : xs.length ≤ 1048576) :
    Calls Try.prog 49 #[v] w fun e w' => e = .returned (.bool (ordB xs)) ∧ Below w.heap.size w w' := by
  have HMV := Lib.hid (fun W (hW : Below w.heap.size w W) => spMovesValid_c xs v W (hx.below hW) hz hn')
  obtain ⟨A, cap, rfl, hn, hc, hcell⟩ := hx.open
  have HON := Lib.hid (fun k h => ordB_no (xs := xs) (k := k) h)
  have HOY : Hid (GoodO xs → ordB xs = mvalid xs) := fun h => by unfold ordB; rw [decide_eq_true h, Bool.and_true]
  have HCELL := Lib.hid hcell
  clear hx hz
  go_enter Try.func49, Try.ntmps49
  go_wp2
  go_loopw [3, 4, 6, 9] (fun _ _ _ i wr => ∃ (k : Nat), k ≤ xs.length ∧ i = .int .i64 k ∧ Below w.heap.size w wr ∧ Hid (GoodO (xs.take k))) (fun _ _ _ i _ => xs.length - (RowKit.intOf i).toNat)
  case atStart => exact ⟨0, by omega, rfl, Below.refl _ _, by show GoodO _; simp [GoodO]⟩
  case round =>
    obtain ⟨k, hk, rfl, hb, hgd⟩ := hrel
    have hbs := hb.size
    by_cases hlt : k < xs.length
    · obtain ⟨b, off, rfl, hbl, hc1, hc2⟩ := hcell k hlt
      have hd1 := (hb.cell (p := ⟨b, off + k * 2, none⟩) hbl).trans hc1
      have hd2 := (hb.cell (p := ⟨b, off + k * 2 + 1, none⟩) hbl).trans hc2
      have hxj : ∀ j (hj : j < xs.length), w.cell? ⟨b, off + j * 2, none⟩ = some (.string xs[j].1) ∧ w.cell? ⟨b, off + j * 2 + 1, none⟩ = some (.string xs[j].2) := fun j hj => by
        obtain ⟨b', off', e, _, q1, q2⟩ := hcell j hj
        cases e; exact ⟨q1, q2⟩
      have HXJ := Lib.hid hxj
      have HGS := Lib.hid (GoodO_step xs k hlt)
      have HNO := Lib.hid (fun h => HON.out (k + 1) h)
      have hN := At.new wr 33 #[.string xs[k].1, .string xs[k].2]
      have hB1 := hb.alloc hbs (.cells #[.string xs[k].1, .string xs[k].2] 33)
      have i0 : (0 : Int) ≤ (k : Int) := by omega
      have i1 : (k : Int) ≤ (xs.length : Int) := by omega
      have i2 : (k : Int) ≤ (cap : Int) := by omega
      have i3 : k ≤ cap := by omega
      clear hc1 hc2 hcell hxj
      rcases Bool.eq_false_or_eq_true (isD xs[k].2) with hdg | hdg
      · have hg2 : Hid (GoodO (xs.take (k + 1))) := HGS.out.2 ⟨hgd.out, fun x _ hbad => by rw [hbad.2.2] at hdg; cases hdg⟩
        clear hN
        generalize xs[k].1 = x1 at *
        generalize xs[k].2 = x2 at *
        go_wp2_with (go_at_call 104; refine (l1Digit_c _ _).mono ?_; rintro e w' ⟨rfl, rfl⟩)
        go_roundw
        case rel => exact ⟨k + 1, by omega, by go_num, hB1, hg2⟩
        case measure => simp [RowKit.intOf]; omega
      · have HBD : Hid (∀ j (hj : j < xs.length), (BadO xs[j] xs[k] ↔ xs[j].1 = xs[k].2 ∧ xs[j].2 ≠ xs[k].2)) := fun j hj => ⟨fun h => ⟨h.1, h.2.1⟩, fun h => ⟨h.1, h.2, hdg⟩⟩
        have HALL : Hid ((∀ j (hj : j < k), ¬ BadO xs[j] xs[k]) → GoodO (xs.take (k + 1))) := fun h => HGS.out.2 ⟨hgd.out, fun x hx => by
          obtain ⟨j, hj, rfl⟩ := List.getElem_of_mem hx
          rw [List.getElem_take]
          exact h j (by rw [List.length_take] at hj; omega)⟩
        have HBAD : Hid (∀ j (hj : j < k), BadO xs[j] xs[k] → ordB xs = false) := fun j hj hbad => HNO.out fun hg => by
          have := (HGS.out.1 hg).2 xs[j] (List.mem_take_iff_getElem.2 ⟨j, by omega, rfl⟩)
          exact this hbad
        generalize hx1 : xs[k].1 = x1 at *
        generalize hx2 : xs[k].2 = x2 at *
        clear hx1 hx2
        rename World => wo
        go_wp2_with (go_at_call 104; refine (l1Digit_c _ _).mono ?_; rintro e w' ⟨rfl, rfl⟩)
        go_loopw [6, 21] (fun _ i wr => ∃ (j : Nat), j ≤ k ∧ i = .int .i64 j ∧ Below w.heap.size w wr ∧ At wr wo.heap.size 33 #[.string x1, .string x2] ∧ Hid (∀ q (hq : q < j) (hq2 : q < xs.length) (hk2 : k < xs.length), ¬ BadO xs[q] xs[k])) (fun _ i _ => k - (RowKit.intOf i).toNat)
        case atStart => exact ⟨0, by omega, rfl, hB1, hN, fun q hq => by omega⟩
        case round =>
          obtain ⟨j, hj, rfl, hb2, hN2, hq⟩ := hrel
          have hbs2 := hb2.size
          have hl2 := hN2.lt
          by_cases hjk : j < k
          · have hjl : j < xs.length := by omega
            have e1 := (hb2.cell (p := ⟨b, off + j * 2, none⟩) hbl).trans (HXJ.out j hjl).1
            have e2 := (hb2.cell (p := ⟨b, off + j * 2 + 1, none⟩) hbl).trans (HXJ.out j hjl).2
            have m1 : wr.cell? ⟨wo.heap.size, 0, none⟩ = some (.string x1) := hN2.cell 0
            have m2 : wr.cell? ⟨wo.heap.size, 1, none⟩ = some (.string x2) := hN2.cell 1
            have HB1 := Lib.hid (HBD.out j hjl)
            have HB2 := Lib.hid (HBAD.out j hjk)
            have HQN : Hid (¬ BadO xs[j] xs[k] → ∀ q (hq : q < j + 1) (hq2 : q < xs.length) (hk2 : k < xs.length), ¬ BadO xs[q] xs[k]) := fun h q hq1 hq2 hk2 => by
              by_cases e : q = j
              · subst e; exact h
              · exact hq.out q (by omega) hq2 hk2
            have hBn := hb2.alloc hbs2 (.cells #[.string xs[j].1, .string xs[j].2] 33)
            have hNn := hN2.alloc (.cells #[.string xs[j].1, .string xs[j].2] 33)
            have j1 : (j : Int) < (k : Int) := by omega
            generalize hbx : BadO xs[j] xs[k] = bx at *
            clear hbx
            generalize xs[j].1 = y1 at *
            generalize xs[j].2 = y2 at *
            rcases Bool.eq_false_or_eq_true (y1.toList == x2.toList) with hd | hd
            · have hd' := hd
              rw [beq_str, decide_eq_true_eq] at hd'
              have HD := Lib.hid hd'
              clear hd'
              rcases Bool.eq_false_or_eq_true (y2.toList == x2.toList) with hf | hf
              · have hf' := hf
                rw [beq_str, decide_eq_true_eq] at hf'
                have hnb : ¬ bx := fun h => by have := HB1.out.1 h; exact this.2 hf'
                have HQ2 := Lib.hid (HQN.out hnb)
                clear hf' hnb
                go_wp2
                go_roundw
                case rel => exact ⟨j + 1, by omega, by go_num, hBn, hNn, HQ2.out⟩
                case measure => simp [RowKit.intOf]; omega
              · have hf' := hf
                rw [beq_str, decide_eq_false_iff_not] at hf'
                have hyb : bx := HB1.out.2 ⟨HD.out, hf'⟩
                have HF := Lib.hid (HB2.out hyb)
                clear hf' hyb
                go_wp2
                go_ret
                exact ⟨by rw [HF.out]; rfl, hBn⟩
            · have hd' := hd
              rw [beq_str, decide_eq_false_iff_not] at hd'
              have hnb : ¬ bx := fun h => by have := HB1.out.1 h; exact hd' this.1
              have HQ2 := Lib.hid (HQN.out hnb)
              clear hd' hnb
              go_wp2
              go_roundw
              case rel => exact ⟨j + 1, by omega, by go_num, hBn, hNn, HQ2.out⟩
              case measure => simp [RowKit.intOf]; omega
          · have hjk' : j = k := by omega
            subst hjk'
            have hg2 := HALL.out fun q hq1 => hq.out q hq1 (by omega) hlt
            have HG2 := Lib.hid hg2
            clear hg2
            go_wp2
            go_roundw
            case rel => exact ⟨j + 1, by omega, by go_num, hb2, HG2.out⟩
            case measure => simp [RowKit.intOf]; omega
    · have hk' : k = xs.length := by omega
      have hgg := hgd.out
      rw [hk', List.take_of_length_le (Nat.le_refl _)] at hgg
      have HT := Lib.hid (HOY.out hgg)
      have hmv := HMV.out _ hb
      clear hgg hk' hcell
      go_wp2_with (go_at_call 73; refine hmv.mono ?_; rintro e w2 ⟨rfl, hb2⟩)
      go_ret
      exact ⟨by rw [HT.out]; rfl, hb.trans (hb2.mono hbs)⟩
end Go.Proofs.Ytbgchjjaaelkbaa
