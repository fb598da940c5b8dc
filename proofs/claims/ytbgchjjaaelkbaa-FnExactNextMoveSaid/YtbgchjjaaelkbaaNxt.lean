import Derived.Test.YtbgchjjaaelkbaaSpN
import Derived.Test.YtbgchjjaaelkbaaHold
import Derived.Test.YtbgchjjaaelkbaaBio
namespace Go.PM
open Go.RowKit
def nextB (xs : List Mv) : Bool := (aheadI (dropM xs)).isSome
def nextV (xs : List Mv) : Mv := ((aheadI (dropM xs)).bind fun i => (dropM xs)[i]?).getD (emp, emp)
theorem dropM_mem {xs : List Mv} : ∀ m ∈ dropM xs, m.1 ≠ m.2 ∧ isP m.1 = true ∧ m ∈ xs ∧ MV xs := by
  intro m hm
  unfold dropM at hm
  split at hm
  · next h =>
    have hMV : MV xs := by simpa [mvalid] using h
    obtain ⟨h1, h2⟩ := List.mem_filter.1 hm
    have := hMV.1 m h1
    unfold mok at this; rw [Bool.and_eq_true] at this
    exact ⟨by simpa using h2, this.1, h1, hMV⟩
  · cases hm
theorem dropM_nine (xs : List Mv) : (dropM xs).length ≤ 9 := by
  unfold dropM; split
  · next h => exact Nat.le_trans (busyM_le xs) (MV_len (by simpa [mvalid] using h))
  · simp
theorem next_none {xs : List Mv} (h : aheadZ (dropM xs) = -1) : nextB xs = false ∧ nextV xs = (emp, emp) := by
  have := aheadI_of_neg h
  unfold nextB nextV
  rw [this]; exact ⟨rfl, rfl⟩
theorem next_some {xs : List Mv} {i : Nat} (hi : i < (dropM xs).length) (h : aheadI (dropM xs) = some i) : nextB xs = true ∧ nextV xs = (dropM xs)[i] := by
  unfold nextB nextV
  rw [h]
  refine ⟨rfl, ?_⟩
  show ((dropM xs)[i]?).getD _ = _
  rw [List.getElem?_eq_getElem hi]; rfl
end Go.PM
namespace Go.Proofs.Ytbgchjjaaelkbaa
open Go.RowKit Go.PM

theorem results_mv (fn : Func) (hr : fn.results = #[.cell 2 33, .tmp 3]) (W : World) (b : Nat) (a c : ByteArray) (x : Bool) (hA : At W b 33 #[.string a, .string c]) (tmps : Array Value) (h2 : tmps.getD 2 undef = .pointer (some ⟨b, 0, none⟩)) (h3 : tmps.getD 3 undef = .bool x) :
    (results fn tmps).run Try.prog W = .ok (.tuple #[.agg #[.string a, .string c], .bool x]) W := by
  have q0 := hA.cell 0
  have q1 := hA.cell 1
  simp at q0 q1
  simp only [Array.getD_eq_getD_getElem?] at h2 h3
  simp [results, hr, go_sem, h2, h3, q0, q1]

set_option maxRecDepth 100000 in
set_option maxHeartbeats 1600000 in
theorem imNextMove_c (xs : List Mv) (v : Value) (w : World) (hx : RdM w v xs) (hn' : xs.length ≤ 1048576) :
    Calls Try.prog 40 #[v] w fun e w' => e = .returned (.tuple #[.agg #[.string (nextV xs).1, .string (nextV xs).2], .bool (nextB xs)]) ∧ Below w.heap.size w w' := by
  have hb0 : Below w.heap.size w (w.alloc (.cells #[.string ⟨#[]⟩, .string ⟨#[]⟩] 33)) := (Below.refl _ _).alloc (Nat.le_refl _) _
  have hN0 := At.new w 33 #[.string ⟨#[]⟩, .string ⟨#[]⟩]
  have HD := Lib.hid (imDropIdle_c xs v _ (hx.below hb0) hn')
  have hle := dropM_nine xs
  have HP := Lib.hid (fun m hm => (dropM_mem (xs := xs) m hm).2.1)
  have HF := Lib.hid (fun ws wv A hx hl hp => firstAhead_c ws wv A hx (by omega : ws.length ≤ 1048576) hp)
  have HNO := Lib.hid (next_none (xs := xs))
  have HSO := Lib.hid (fun i hi h => next_some (xs := xs) (i := i) hi h)
  have HIV : Hid (mvalid xs = false → dropM xs = []) := fun h => by unfold dropM; rw [h]; rfl
  clear hx
  go_enter Try.func40, Try.ntmps40
  go_wp2_with (go_at_call 15; refine HD.out.mono ?_; rintro e w1 ⟨v1, rfl, ho1, hb1⟩; refine held ?_)
  unfold Held
  have hb01 := hb0.trans (hb1.mono (by simp))
  have hN1 := hN0.keep hb1
  have hs1 := hb01.size
  have hrd1 : RdM w1 v1 (dropM xs) := Rd.of_own ho1
  have hfa := HF.out (dropM xs) v1 w1 hrd1 (by omega) HP.out
  obtain ⟨A, cap, rfl, hn1, hc1, hcell⟩ := hrd1.open
  clear hb1 hN0 hb0 ho1 HD
  rcases aheadZ_lt (dropM xs) with hz | ⟨i, hi, hz, ha⟩
  · obtain ⟨h1, h2⟩ := HNO.out hz
    have H1 := Lib.hid h1
    have H2 := Lib.hid h2
    rw [hz] at hfa
    clear h1 h2 hz hcell
    generalize dropM xs = ds at *
    go_wp2_with (go_at_call 96; refine hfa.mono ?_; rintro e w2 ⟨rfl, hb2⟩; refine held ?_)
    unfold Held
    have hB := hb01.trans (hb2.mono hs1)
    have hN2 := hN1.keep hb2
    have q1 : w2.cell? ⟨w.heap.size, 0, none⟩ = some (.string ⟨#[]⟩) := hN2.cell 0
    have q2 : w2.cell? ⟨w.heap.size, 1, none⟩ = some (.string ⟨#[]⟩) := hN2.cell 1
    have z1 := hN2.frozen 0
    have z2 := hN2.frozen 1
    have hl := hN2.lt
    have hs2 := hB.size
    clear hb2 hN1 hfa
    rcases Bool.eq_false_or_eq_true (mvalid xs) with hm | hm
    all_goals
      go_wp2
      refine bodyPost_ret (v := .tuple #[.agg #[.string ⟨#[]⟩, .string ⟨#[]⟩], .bool false]) (results_mv _ Try.results40 _ w.heap.size _ _ _ ?_ _ rfl rfl) rfl ⟨by rw [H1.out, H2.out], by (repeat' (first | (with_reducible exact Below.refl _ _) | (with_reducible assumption) | (with_reducible refine Below.alloc ?_ ?_ _) | (with_reducible refine Below.drew ?_) | (with_reducible refine Below.setCell ?_ ?_ _) | (with_reducible exact Nat.le_refl _) | omega | ((repeat (first | rewrite [World.size_alloc] | rewrite [World.size_setCell] | rewrite [World.size_drew])); omega) | (simp; omega) | (simp; done)))⟩
      have := (hN2.set 0 (.string ⟨#[]⟩)).set 1 (.string ⟨#[]⟩)
      simpa using this
  · obtain ⟨h1, h2⟩ := HSO.out i hi ha
    have hm : mvalid xs = true := by
      rcases Bool.eq_false_or_eq_true (mvalid xs) with hm | hm
      · exact hm
      · rw [HIV.out hm] at hi; simp at hi
    have H1 := Lib.hid h1
    have H2 := Lib.hid h2
    rw [hz] at hfa
    obtain ⟨b, off, rfl, hbl, d1, d2⟩ := hcell i hi
    have i0 : (0 : Int) ≤ (i : Int) := by omega
    have i1 : (i : Int) < ((dropM xs).length : Int) := by omega
    have i2 : ¬ (i : Int) < 0 := by omega
    clear h1 h2 hz hcell ha
    generalize (dropM xs)[i] = m at *
    generalize dropM xs = ds at *
    go_wp2_with (go_at_call 96; refine hfa.mono ?_; rintro e w2 ⟨rfl, hb2⟩; refine held ?_)
    unfold Held
    have hB := hb01.trans (hb2.mono hs1)
    have hN2 := hN1.keep hb2
    have q1 : w2.cell? ⟨w.heap.size, 0, none⟩ = some (.string ⟨#[]⟩) := hN2.cell 0
    have q2 : w2.cell? ⟨w.heap.size, 1, none⟩ = some (.string ⟨#[]⟩) := hN2.cell 1
    have z1 := hN2.frozen 0
    have z2 := hN2.frozen 1
    have e1 := (hb2.cell (p := ⟨b, off + i * 2, none⟩) hbl).trans d1
    have e2 := (hb2.cell (p := ⟨b, off + i * 2 + 1, none⟩) hbl).trans d2
    have hl := hN2.lt
    have hs2 := hB.size
    clear hb2 hN1 hfa d1 d2
    go_wp2
    refine bodyPost_ret (v := .tuple #[.agg #[.string m.1, .string m.2], .bool true]) (results_mv _ Try.results40 _ w.heap.size _ _ _ ?_ _ rfl rfl) rfl ⟨by rw [H1.out, H2.out], by (repeat' (first | (with_reducible exact Below.refl _ _) | (with_reducible assumption) | (with_reducible refine Below.alloc ?_ ?_ _) | (with_reducible refine Below.drew ?_) | (with_reducible refine Below.setCell ?_ ?_ _) | (with_reducible exact Nat.le_refl _) | omega | ((repeat (first | rewrite [World.size_alloc] | rewrite [World.size_setCell] | rewrite [World.size_drew])); omega) | (simp; omega) | (simp; done)))⟩
    have := (hN2.set 0 (.string m.1)).set 1 (.string m.2)
    simpa using this
set_option maxRecDepth 100000 in
set_option maxHeartbeats 1600000 in
theorem spNextMove_c (xs : List Mv) (v : Value) (w : World) (hx : RdM w v xs) (hz : ∀ m ∈ xs, m.1.size ≤ 9223372036854775807 ∧ m.2.size ≤ 9223372036854775807) (hn' : xs.length ≤ 1048576) :
    Calls Try.prog 41 #[v] w fun e w' => e = .returned (.tuple #[.agg #[.string (nextV xs).1, .string (nextV xs).2], .bool (nextB xs)]) ∧ Below w.heap.size w w' := by
  have hb0 : Below w.heap.size w (w.alloc (.cells #[.string ⟨#[]⟩, .string ⟨#[]⟩] 33)) := (Below.refl _ _).alloc (Nat.le_refl _) _
  have hN0 := At.new w 33 #[.string ⟨#[]⟩, .string ⟨#[]⟩]
  have HD := Lib.hid (spDropIdle_c xs v _ (hx.below hb0) hz (by omega))
  have HX := Lib.hid (fun W (hW : Below w.heap.size w W) => spMovesValid_c xs v W (hx.below hW) hz (by omega))
  have hle := dropM_nine xs
  have HP := Lib.hid (fun m hm => (dropM_mem (xs := xs) m hm).1)
  have HF := Lib.hid (fun ws wv A hx hl hp => l5Next_c ws wv A hx (by omega : ws.length ≤ 1048575) hp)
  have HNO := Lib.hid (next_none (xs := xs))
  have HSO := Lib.hid (fun i hi h => next_some (xs := xs) (i := i) hi h)
  have HIV : Hid (mvalid xs = false → dropM xs = []) := fun h => by unfold dropM; rw [h]; rfl
  clear hx hz
  go_enter Try.func41, Try.ntmps41
  go_wp2_with (go_at_call 18; refine HD.out.mono ?_; rintro e w1 ⟨v1, rfl, ho1, hb1⟩; refine held ?_)
  unfold Held
  have hb01 := hb0.trans (hb1.mono (by simp))
  have hN1 := hN0.keep hb1
  have hs1 := hb01.size
  have hrd1 : RdM w1 v1 (dropM xs) := Rd.of_own ho1
  have hfa := HF.out (dropM xs) v1 w1 hrd1 (by omega) HP.out
  obtain ⟨A, cap, rfl, hn1, hc1, hcell⟩ := hrd1.open
  clear hb1 hN0 hb0 ho1 HD
  rcases aheadZ_lt (dropM xs) with hz | ⟨i, hi, hz, ha⟩
  · obtain ⟨h1, h2⟩ := HNO.out hz
    have H1 := Lib.hid h1
    have H2 := Lib.hid h2
    rw [hz] at hfa
    clear h1 h2 hz hcell
    generalize dropM xs = ds at *
    go_wp2_with (go_at_call 97; refine hfa.mono ?_; rintro e w2 ⟨rfl, hb2⟩; refine held ?_)
    unfold Held
    have hB := hb01.trans (hb2.mono hs1)
    have hN2 := hN1.keep hb2
    have q1 : w2.cell? ⟨w.heap.size, 0, none⟩ = some (.string ⟨#[]⟩) := hN2.cell 0
    have q2 : w2.cell? ⟨w.heap.size, 1, none⟩ = some (.string ⟨#[]⟩) := hN2.cell 1
    have z1 := hN2.frozen 0
    have z2 := hN2.frozen 1
    have hl := hN2.lt
    have hs2 := hB.size
    clear hb2 hN1 hfa
    go_wp2
    refine bodyPost_ret (v := .tuple #[.agg #[.string ⟨#[]⟩, .string ⟨#[]⟩], .bool false]) (results_mv _ Try.results41 _ w.heap.size _ _ _ ?_ _ rfl rfl) rfl ⟨by rw [H1.out, H2.out], by (repeat' (first | (with_reducible exact Below.refl _ _) | (with_reducible assumption) | (with_reducible refine Below.alloc ?_ ?_ _) | (with_reducible refine Below.drew ?_) | (with_reducible refine Below.setCell ?_ ?_ _) | (with_reducible exact Nat.le_refl _) | omega | ((repeat (first | rewrite [World.size_alloc] | rewrite [World.size_setCell] | rewrite [World.size_drew])); omega) | (simp; omega) | (simp; done)))⟩
    have := (hN2.set 0 (.string ⟨#[]⟩)).set 1 (.string ⟨#[]⟩)
    simpa using this
  · obtain ⟨h1, h2⟩ := HSO.out i hi ha
    have hm : mvalid xs = true := by
      rcases Bool.eq_false_or_eq_true (mvalid xs) with hm | hm
      · exact hm
      · rw [HIV.out hm] at hi; simp at hi
    have H1 := Lib.hid h1
    have H2 := Lib.hid h2
    rw [hz] at hfa
    obtain ⟨b, off, rfl, hbl, d1, d2⟩ := hcell i hi
    have i0 : (0 : Int) ≤ (i : Int) := by omega
    have i1 : (i : Int) < ((dropM xs).length : Int) := by omega
    clear h1 h2 hz hcell ha
    generalize (dropM xs)[i] = m at *
    generalize dropM xs = ds at *
    go_wp2_with (go_at_call 97; refine hfa.mono ?_; rintro e w2 ⟨rfl, hb2⟩; refine held ?_)
    unfold Held
    have hB2 := hb01.trans (hb2.mono hs1)
    have hN2 := hN1.keep hb2
    have e1 := (hb2.cell (p := ⟨b, off + i * 2, none⟩) hbl).trans d1
    have e2 := (hb2.cell (p := ⟨b, off + i * 2 + 1, none⟩) hbl).trans d2
    have hbl2 := Nat.lt_of_lt_of_le hbl hb2.size
    have hs2 := hB2.size
    have hmv := HX.out _ hB2
    rw [hm] at hmv
    clear hb2 hN1 hfa d1 d2
    go_wp2_with (go_at_call 73; refine hmv.mono ?_; rintro e w3 ⟨rfl, hb3⟩; refine held ?_)
    unfold Held
    have hB := hB2.trans (hb3.mono hs2)
    have hN3 := hN2.keep hb3
    have q1 : w3.cell? ⟨w.heap.size, 0, none⟩ = some (.string ⟨#[]⟩) := hN3.cell 0
    have q2 : w3.cell? ⟨w.heap.size, 1, none⟩ = some (.string ⟨#[]⟩) := hN3.cell 1
    have z1 := hN3.frozen 0
    have z2 := hN3.frozen 1
    have f1 := (hb3.cell (p := ⟨b, off + i * 2, none⟩) hbl2).trans e1
    have f2 := (hb3.cell (p := ⟨b, off + i * 2 + 1, none⟩) hbl2).trans e2
    have hl := hN3.lt
    have hs3 := hB.size
    clear hb3 hN2 hmv e1 e2
    go_wp2
    refine bodyPost_ret (v := .tuple #[.agg #[.string m.1, .string m.2], .bool true]) (results_mv _ Try.results41 _ w.heap.size _ _ _ ?_ _ rfl rfl) rfl ⟨by rw [H1.out, H2.out], by (repeat' (first | (with_reducible exact Below.refl _ _) | (with_reducible assumption) | (with_reducible refine Below.alloc ?_ ?_ _) | (with_reducible refine Below.drew ?_) | (with_reducible refine Below.setCell ?_ ?_ _) | (with_reducible exact Nat.le_refl _) | omega | ((repeat (first | rewrite [World.size_alloc] | rewrite [World.size_setCell] | rewrite [World.size_drew])); omega) | (simp; omega) | (simp; done)))⟩
    have := (hN3.set 0 (.string m.1)).set 1 (.string m.2)
    simpa using this
end Go.Proofs.Ytbgchjjaaelkbaa
