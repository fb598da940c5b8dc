import Derived.Test.YtdhhmphnmllbhaaRed
import Derived.Test.YtdhhmphnmllbhaaFst
import Derived.Test.YtdhhmphnmllbhaaApp
import Derived.Deep.RegionLaw
namespace Go.PM
open Go.RowKit
theorem rdN_take (xs : List Mv) (k : Nat) (hk : k < xs.length) (a : ByteArray) : rdN (xs.take (k + 1)) a = rdN (xs.take k) a + if xs[k].2 = a then 1 else 0 := by
  rw [take_snoc xs k hk]
  unfold rdN
  rw [List.map_append, List.count_append, List.map_cons, List.map_nil, List.count_cons]
  simp
theorem instM_take (a b : ByteArray) (xs : List Mv) (k : Nat) (hk : k < xs.length) : instM a b (xs.take (k + 1)) = instM a b (xs.take k) ++ [(xs[k].1, if xs[k].2 = a then b else xs[k].2)] := by
  rw [take_snoc xs k hk]
  unfold instM
  rw [List.map_append, List.map_cons, List.map_nil]
  by_cases h : xs[k].2 = a
  · rw [if_pos h, if_pos h]
  · rw [if_neg h, if_neg h]
def readB (xs : List Mv) (a : ByteArray) : Bool := decide (rdN xs a ≠ 0)
theorem readB_at {xs : List Mv} {k : Nat} (hk : k < xs.length) {a : ByteArray} (h : xs[k].2 = a) : readB xs a = true := by
  unfold readB
  rw [decide_eq_true_eq]
  intro e
  exact rdN_zero.1 e _ (List.getElem_mem hk) h
theorem readB_no {xs : List Mv} {a : ByteArray} (h : rdN xs a = 0) : readB xs a = false := by
  unfold readB; rw [decide_eq_false_iff_not]; exact fun e => e h
end Go.PM
namespace Go.Proofs.Ytdhhmphnmllbhaa
open Go.RowKit Go.PM
attribute [local go_sem] Oper.semAt_some

set_option maxRecDepth 100000 in
set_option maxHeartbeats 800000 in
theorem l5Read_c (xs : List Mv) (v : Value) (a : ByteArray) (w : World) (hx : RdM w v xs) :
    Calls Try.prog 61 #[v, .string a] w fun e w' => e = .returned (.bool (readB xs a)) ∧ Below w.heap.size w w' := by
  obtain ⟨A, cap, rfl, hn, hc, hcell⟩ := hx.open
  have HRN := Lib.hid (readB_no (xs := xs) (a := a))
  go_enter Try.func61, Try.ntmps61
  go_wp2
  go_loopw [6, 9] (fun _ i wr => ∃ (k : Nat), k ≤ xs.length ∧ i = .int .i64 k ∧ Hid (rdN (xs.take k) a = 0) ∧ Below w.heap.size w wr) (fun _ i _ => xs.length - (intOf i).toNat)
  case atStart => exact ⟨0, by omega, rfl, by show _ = _; simp [rdN], Below.refl _ _⟩
  case round =>
    obtain ⟨k, hk, rfl, hm, hb⟩ := hrel
    have hbs := hb.size
    by_cases hlt : k < xs.length
    · obtain ⟨b, off, rfl, hbl, hc1, hc2⟩ := hcell k hlt
      have hd1 := (hb.cell (p := ⟨b, off + k * 2, none⟩) hbl).trans hc1
      have hd2 := (hb.cell (p := ⟨b, off + k * 2 + 1, none⟩) hbl).trans hc2
      clear hc1 hc2 hcell
      have HR := Lib.hid (rdN_take xs k hlt a)
      have HY := Lib.hid (readB_at (xs := xs) (a := a) hlt)
      generalize xs[k].1 = x1 at *
      generalize xs[k].2 = x2 at *
      go_wp2
      · have h : (x2.toList == a.toList) = true := by assumption
        rw [beq_str, decide_eq_true_eq] at h
        go_ret
        exact ⟨by rw [HY.out h]; rfl, by (repeat' (first | (with_reducible exact Below.refl _ _) | (with_reducible assumption) | (with_reducible refine Below.alloc ?_ ?_ _) | (with_reducible refine Below.drew ?_) | (with_reducible refine Below.setCell ?_ ?_ _) | (with_reducible exact Nat.le_refl _) | omega | ((repeat (first | rewrite [World.size_alloc] | rewrite [World.size_setCell] | rewrite [World.size_drew])); omega) | (simp; omega) | (simp; done)))⟩
      · have h : (x2.toList == a.toList) = false := by assumption
        rw [beq_str, decide_eq_false_iff_not] at h
        go_roundw
        case rel => exact ⟨k + 1, by omega, by go_num, by show _ = _; rw [HR.out, hm.out, if_neg h], by (repeat' (first | (with_reducible exact Below.refl _ _) | (with_reducible assumption) | (with_reducible refine Below.alloc ?_ ?_ _) | (with_reducible refine Below.drew ?_) | (with_reducible refine Below.setCell ?_ ?_ _) | (with_reducible exact Nat.le_refl _) | omega | ((repeat (first | rewrite [World.size_alloc] | rewrite [World.size_setCell] | rewrite [World.size_drew])); omega) | (simp; omega) | (simp; done)))⟩
        case measure => simp [intOf]; omega
    · have hk' : k = xs.length := by omega
      have h1 := hm.out
      rw [hk', List.take_of_length_le (Nat.le_refl _)] at h1
      have HF := Lib.hid (HRN.out h1)
      clear h1 hk'
      go_wp2
      go_ret
      exact ⟨by rw [HF.out]; rfl, hb⟩
set_option maxRecDepth 100000 in
set_option maxHeartbeats 1600000 in
theorem l5Instead_c (xs : List Mv) (v : Value) (a c : ByteArray) (w : World) (hx : RdM w v xs) (hn' : xs.length ≤ 1048575) :
    Calls Try.prog 62 #[v, .string a, .string c] w fun e w' => ∃ v', e = .returned v' ∧ w'.ownsRow w.heap.size 37 2 v' (instM a c xs).length (mcells (instM a c xs)) ∧ Below w.heap.size w w' := by
  obtain ⟨A, cap, rfl, hn, hc, hcell⟩ := hx.open
  have hE := World.ownsRow_lit (e := 37) (base := w.heap.size) (size := 2) w #[] 0 (Nat.le_refl _) (Nat.zero_le _) rfl
  have HL := Lib.hid (fun k => instM_len a c (xs.take k))
  go_enter Try.func62, Try.ntmps62
  go_wp2
  go_loopw [7, 9, 13] (fun o _ i wr => ∃ (k : Nat), k ≤ xs.length ∧ i = .int .i64 k ∧ wr.ownsRow w.heap.size 37 2 o (instM a c (xs.take k)).length (mcells (instM a c (xs.take k))) ∧ Below w.heap.size w wr) (fun _ _ i _ => xs.length - (intOf i).toNat)
  case atStart => exact ⟨0, by omega, rfl, hE, by (repeat' (first | (with_reducible exact Below.refl _ _) | (with_reducible assumption) | (with_reducible refine Below.alloc ?_ ?_ _) | (with_reducible refine Below.drew ?_) | (with_reducible refine Below.setCell ?_ ?_ _) | (with_reducible exact Nat.le_refl _) | omega | ((repeat (first | rewrite [World.size_alloc] | rewrite [World.size_setCell] | rewrite [World.size_drew])); omega) | (simp; omega) | (simp; done)))⟩
  case round =>
    obtain ⟨k, hk, rfl, ho, hb⟩ := hrel
    have hbs := hb.size
    by_cases hlt : k < xs.length
    · obtain ⟨b, off, rfl, hbl, hc1, hc2⟩ := hcell k hlt
      have hd1 := (hb.cell (p := ⟨b, off + k * 2, none⟩) hbl).trans hc1
      have hd2 := (hb.cell (p := ⟨b, off + k * 2 + 1, none⟩) hbl).trans hc2
      have hst := instM_take a c xs k hlt
      have hle := HL.out k
      rw [List.length_take] at hle
      clear hc1 hc2 hcell
      generalize xs[k].1 = x1 at *
      generalize xs[k].2 = x2 at *
      have HST := Lib.hid hst
      clear hst
      generalize instM a c (xs.take k) = ys at *
      by_cases hxa : x2 = a
      · have hbq : (x2.toList == a.toList) = true := by rw [beq_str]; simpa using hxa
        have hs := HST.out
        rw [if_pos hxa] at hs
        have HS := Lib.hid hs
        clear hs hxa
        have hnw := two_new (wr.alloc (.cells #[.string x1, .string c] 37)) (.string x1) (.string c) 37
        rw [World.size_alloc] at hnw
        go_wp2_with (at_builtin; refine held ?_)
        unfold Held
        refine app_mv rfl (.tmp 23) (.tmp 25) rfl w.heap.size u7 ys (x1, c) ⟨wr.heap.size + 1, 0, none⟩ 1 (by rfl) (by rfl) (own_keep (own_keep ho ((Below.refl _ _).alloc (Nat.le_refl _) _)) ((Below.refl _ _).alloc (Nat.le_refl _) _)) hnw (by omega) (by simp; omega) ?_
        intro v' w3 hown3 hgrow3
        have hb3 := below_grown hgrow3 (B := w.heap.size) (by simp; omega) (own_block_ge ho)
        have hbx : Below w.heap.size w ((wr.alloc (.cells #[.string x1, .string c] 37)).alloc (.cells #[.string x1, .string c] 37)) := by (repeat' (first | (with_reducible exact Below.refl _ _) | (with_reducible assumption) | (with_reducible refine Below.alloc ?_ ?_ _) | (with_reducible refine Below.drew ?_) | (with_reducible refine Below.setCell ?_ ?_ _) | (with_reducible exact Nat.le_refl _) | omega | ((repeat (first | rewrite [World.size_alloc] | rewrite [World.size_setCell] | rewrite [World.size_drew])); omega) | (simp; omega) | (simp; done)))
        have hb4 := hbx.trans hb3
        rw [← HS.out] at hown3
        clear hnw hgrow3 hb3 hbx
        go_wp2
        go_roundw
        case rel => exact ⟨k + 1, by omega, by go_num, hown3, hb4⟩
        case measure => simp [intOf]; omega
      · have hbq : (x2.toList == a.toList) = false := by rw [beq_str]; simpa using hxa
        have hs := HST.out
        rw [if_neg hxa] at hs
        have HS := Lib.hid hs
        clear hs hxa
        have hnw := two_new (wr.alloc (.cells #[.string x1, .string x2] 37)) (.string x1) (.string x2) 37
        rw [World.size_alloc] at hnw
        go_wp2_with (at_builtin; refine held ?_)
        unfold Held
        refine app_mv rfl (.tmp 23) (.tmp 25) rfl w.heap.size u7 ys (x1, x2) ⟨wr.heap.size + 1, 0, none⟩ 1 (by rfl) (by rfl) (own_keep (own_keep ho ((Below.refl _ _).alloc (Nat.le_refl _) _)) ((Below.refl _ _).alloc (Nat.le_refl _) _)) hnw (by omega) (by simp; omega) ?_
        intro v' w3 hown3 hgrow3
        have hb3 := below_grown hgrow3 (B := w.heap.size) (by simp; omega) (own_block_ge ho)
        have hbx : Below w.heap.size w ((wr.alloc (.cells #[.string x1, .string x2] 37)).alloc (.cells #[.string x1, .string x2] 37)) := by (repeat' (first | (with_reducible exact Below.refl _ _) | (with_reducible assumption) | (with_reducible refine Below.alloc ?_ ?_ _) | (with_reducible refine Below.drew ?_) | (with_reducible refine Below.setCell ?_ ?_ _) | (with_reducible exact Nat.le_refl _) | omega | ((repeat (first | rewrite [World.size_alloc] | rewrite [World.size_setCell] | rewrite [World.size_drew])); omega) | (simp; omega) | (simp; done)))
        have hb4 := hbx.trans hb3
        rw [← HS.out] at hown3
        clear hnw hgrow3 hb3 hbx
        go_wp2
        go_roundw
        case rel => exact ⟨k + 1, by omega, by go_num, hown3, hb4⟩
        case measure => simp [intOf]; omega
    · have hk' : k = xs.length := by omega
      have ho2 := ho
      rw [hk', List.take_of_length_le (Nat.le_refl _)] at ho2
      clear hk' ho
      go_wp2
      go_ret
      exact ⟨_, rfl, ho2, hb⟩
end Go.Proofs.Ytdhhmphnmllbhaa
