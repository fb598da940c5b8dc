/- Proved: for every input of the form's own reach the law FnRestBehind answers true and its arguments read afterwards as before; no further condition. -/
import Derived.Test.YtdhhmphnmllbhaaSpN
import Derived.Test.YtdhhmphnmllbhaaHold
import Derived.Test.YtdhhmphnmllbhaaBio
import Derived.Test.YtdhhmphnmllbhaaRows
import Derived.Test.YtdhhmphnmllbhaaLib
import Derived.ProofKit
import Derived.OpenShut
import Derived.ShutString
import Derived.ChangeOld
import Derived.Deep.Slices
import Derived.ChangeSame
import Derived.Carry
import Derived.Test.YtdhhmphnmllbhaaDraw
import Derived.Test.YtdhhmphnmllbhaaDraw3
import Derived.Test.YtdhhmphnmllbhaaTab
import Derived.ChangeKeysEq
import Derived.Test.YtdhhmphnmllbhaaHar
import Derived.Test.YtdhhmphnmllbhaaRed
import Derived.Stop.RegionWithIn
import Derived.Deep.RegionWith
import Derived.Test.YtdhhmphnmllbhaaSource
import Derived.BigQuiet
import Derived.Test.YtdhhmphnmllbhaaComp
import Derived.Test.YtdhhmphnmllbhaaBusy
import Derived.Test.YtdhhmphnmllbhaaUndoP
import Derived.Test.YtdhhmphnmllbhaaIdle
namespace Go.PM
open Go.RowKit
def nextB (xs : List Mv) : Bool := (aheadI (dropM xs)).isSome
def nextV (xs : List Mv) : Mv := ((aheadI (dropM xs)).bind fun i => (dropM xs)[i]?).getD (emp, emp)
theorem dropM_mem {xs : List Mv} : ∀ m ∈ dropM xs, m.1 ≠ m.2 ∧ isP m.1 = true ∧ m ∈ xs ∧ MV xs := by
  intro m hm
  unfold dropM at hm
  split at hm
  · next h =>
    have hMV : MV xs := by simpa [mvalid] using h
    obtain ⟨h1, h2⟩ := List.mem_filter.1 hm
    have := hMV.1 m h1
    unfold mok at this; rw [Bool.and_eq_true] at this
    exact ⟨by simpa using h2, this.1, h1, hMV⟩
  · cases hm
theorem dropM_nine (xs : List Mv) : (dropM xs).length ≤ 9 := by
  unfold dropM; split
  · next h => exact Nat.le_trans (busyM_le xs) (MV_len (by simpa [mvalid] using h))
  · simp
theorem next_none {xs : List Mv} (h : aheadZ (dropM xs) = -1) : nextB xs = false ∧ nextV xs = (emp, emp) := by
  have := aheadI_of_neg h
  unfold nextB nextV
  rw [this]; exact ⟨rfl, rfl⟩
theorem next_some {xs : List Mv} {i : Nat} (hi : i < (dropM xs).length) (h : aheadI (dropM xs) = some i) : nextB xs = true ∧ nextV xs = (dropM xs)[i] := by
  unfold nextB nextV
  rw [h]
  refine ⟨rfl, ?_⟩
  show ((dropM xs)[i]?).getD _ = _
  rw [List.getElem?_eq_getElem hi]; rfl
end Go.PM
namespace Go.Proofs.Ytdhhmphnmllbhaa
open Go.RowKit Go.PM

theorem results_mv (fn : Func) (hr : fn.results = #[.cell 2 37, .tmp 3]) (W : World) (b : Nat) (a c : ByteArray) (x : Bool) (hA : At W b 37 #[.string a, .string c]) (tmps : Array Value) (h2 : tmps.getD 2 undef = .pointer (some ⟨b, 0, none⟩)) (h3 : tmps.getD 3 undef = .bool x) :
    (results fn tmps).run Try.prog W = .ok (.tuple #[.agg #[.string a, .string c], .bool x]) W := by
  have q0 := hA.cell 0
  have q1 := hA.cell 1
  simp at q0 q1
  simp only [Array.getD_eq_getD_getElem?] at h2 h3
  simp [results, hr, go_sem, h2, h3, q0, q1]

set_option maxRecDepth 100000 in
set_option maxHeartbeats 1600000 in
theorem imNextMove_c (xs : List Mv) (v : Value) (w : World) (hx : RdM w v xs) (hn' : xs.length ≤ 1048576) :
    Calls Try.prog 25 #[v] w fun e w' => e = .returned (.tuple #[.agg #[.string (nextV xs).1, .string (nextV xs).2], .bool (nextB xs)]) ∧ Below w.heap.size w w' := by
  have hb0 : Below w.heap.size w (w.alloc (.cells #[.string ⟨#[]⟩, .string ⟨#[]⟩] 37)) := (Below.refl _ _).alloc (Nat.le_refl _) _
  have hN0 := At.new w 37 #[.string ⟨#[]⟩, .string ⟨#[]⟩]
  have HD := Lib.hid (imDropIdle_c xs v _ (hx.below hb0) hn')
  have hle := dropM_nine xs
  have HP := Lib.hid (fun m hm => (dropM_mem (xs := xs) m hm).2.1)
  have HF := Lib.hid (fun ws wv A hx hl hp => firstAhead_c ws wv A hx (by omega : ws.length ≤ 1048576) hp)
  have HNO := Lib.hid (next_none (xs := xs))
  have HSO := Lib.hid (fun i hi h => next_some (xs := xs) (i := i) hi h)
  have HIV : Hid (mvalid xs = false → dropM xs = []) := fun h => by unfold dropM; rw [h]; rfl
  clear hx
  go_enter Try.func25, Try.ntmps25
  go_wp2_with (go_at_call 13; refine HD.out.mono ?_; rintro e w1 ⟨v1, rfl, ho1, hb1⟩; refine held ?_)
  unfold Held
  have hb01 := hb0.trans (hb1.mono (by simp))
  have hN1 := hN0.keep hb1
  have hs1 := hb01.size
  have hrd1 : RdM w1 v1 (dropM xs) := Rd.of_own ho1
  have hfa := HF.out (dropM xs) v1 w1 hrd1 (by omega) HP.out
  obtain ⟨A, cap, rfl, hn1, hc1, hcell⟩ := hrd1.open
  clear hb1 hN0 hb0 ho1 HD
  rcases aheadZ_lt (dropM xs) with hz | ⟨i, hi, hz, ha⟩
  · obtain ⟨h1, h2⟩ := HNO.out hz
    have H1 := Lib.hid h1
    have H2 := Lib.hid h2
    rw [hz] at hfa
    clear h1 h2 hz hcell
    generalize dropM xs = ds at *
    go_wp2_with (go_at_call 63; refine hfa.mono ?_; rintro e w2 ⟨rfl, hb2⟩; refine held ?_)
    unfold Held
    have hB := hb01.trans (hb2.mono hs1)
    have hN2 := hN1.keep hb2
    have q1 : w2.cell? ⟨w.heap.size, 0, none⟩ = some (.string ⟨#[]⟩) := hN2.cell 0
    have q2 : w2.cell? ⟨w.heap.size, 1, none⟩ = some (.string ⟨#[]⟩) := hN2.cell 1
    have z1 := hN2.frozen 0
    have z2 := hN2.frozen 1
    have hl := hN2.lt
    have hs2 := hB.size
    clear hb2 hN1 hfa
    rcases Bool.eq_false_or_eq_true (mvalid xs) with hm | hm
    all_goals
      go_wp2
      refine bodyPost_ret (v := .tuple #[.agg #[.string ⟨#[]⟩, .string ⟨#[]⟩], .bool false]) (results_mv _ Try.results25 _ w.heap.size _ _ _ ?_ _ rfl rfl) rfl ⟨by rw [H1.out, H2.out], by (repeat' (first | (with_reducible exact Below.refl _ _) | (with_reducible assumption) | (with_reducible refine Below.alloc ?_ ?_ _) | (with_reducible refine Below.drew ?_) | (with_reducible refine Below.setCell ?_ ?_ _) | (with_reducible exact Nat.le_refl _) | omega | ((repeat (first | rewrite [World.size_alloc] | rewrite [World.size_setCell] | rewrite [World.size_drew])); omega) | (simp; omega) | (simp; done)))⟩
      have := (hN2.set 0 (.string ⟨#[]⟩)).set 1 (.string ⟨#[]⟩)
      simpa using this
  · obtain ⟨h1, h2⟩ := HSO.out i hi ha
    have hm : mvalid xs = true := by
      rcases Bool.eq_false_or_eq_true (mvalid xs) with hm | hm
      · exact hm
      · rw [HIV.out hm] at hi; simp at hi
    have H1 := Lib.hid h1
    have H2 := Lib.hid h2
    rw [hz] at hfa
    obtain ⟨b, off, rfl, hbl, d1, d2⟩ := hcell i hi
    have i0 : (0 : Int) ≤ (i : Int) := by omega
    have i1 : (i : Int) < ((dropM xs).length : Int) := by omega
    have i2 : ¬ (i : Int) < 0 := by omega
    clear h1 h2 hz hcell ha
    generalize (dropM xs)[i] = m at *
    generalize dropM xs = ds at *
    go_wp2_with (go_at_call 63; refine hfa.mono ?_; rintro e w2 ⟨rfl, hb2⟩; refine held ?_)
    unfold Held
    have hB := hb01.trans (hb2.mono hs1)
    have hN2 := hN1.keep hb2
    have q1 : w2.cell? ⟨w.heap.size, 0, none⟩ = some (.string ⟨#[]⟩) := hN2.cell 0
    have q2 : w2.cell? ⟨w.heap.size, 1, none⟩ = some (.string ⟨#[]⟩) := hN2.cell 1
    have z1 := hN2.frozen 0
    have z2 := hN2.frozen 1
    have e1 := (hb2.cell (p := ⟨b, off + i * 2, none⟩) hbl).trans d1
    have e2 := (hb2.cell (p := ⟨b, off + i * 2 + 1, none⟩) hbl).trans d2
    have hl := hN2.lt
    have hs2 := hB.size
    clear hb2 hN1 hfa d1 d2
    go_wp2
    refine bodyPost_ret (v := .tuple #[.agg #[.string m.1, .string m.2], .bool true]) (results_mv _ Try.results25 _ w.heap.size _ _ _ ?_ _ rfl rfl) rfl ⟨by rw [H1.out, H2.out], by (repeat' (first | (with_reducible exact Below.refl _ _) | (with_reducible assumption) | (with_reducible refine Below.alloc ?_ ?_ _) | (with_reducible refine Below.drew ?_) | (with_reducible refine Below.setCell ?_ ?_ _) | (with_reducible exact Nat.le_refl _) | omega | ((repeat (first | rewrite [World.size_alloc] | rewrite [World.size_setCell] | rewrite [World.size_drew])); omega) | (simp; omega) | (simp; done)))⟩
    have := (hN2.set 0 (.string m.1)).set 1 (.string m.2)
    simpa using this
set_option maxRecDepth 100000 in
set_option maxHeartbeats 1600000 in
theorem spNextMove_c (xs : List Mv) (v : Value) (w : World) (hx : RdM w v xs) (hz : ∀ m ∈ xs, m.1.size ≤ 9223372036854775807 ∧ m.2.size ≤ 9223372036854775807) (hn' : xs.length ≤ 1048576) :
    Calls Try.prog 26 #[v] w fun e w' => e = .returned (.tuple #[.agg #[.string (nextV xs).1, .string (nextV xs).2], .bool (nextB xs)]) ∧ Below w.heap.size w w' := by
  have hb0 : Below w.heap.size w (w.alloc (.cells #[.string ⟨#[]⟩, .string ⟨#[]⟩] 37)) := (Below.refl _ _).alloc (Nat.le_refl _) _
  have hN0 := At.new w 37 #[.string ⟨#[]⟩, .string ⟨#[]⟩]
  have HD := Lib.hid (spDropIdle_c xs v _ (hx.below hb0) hz (by omega))
  have HX := Lib.hid (fun W (hW : Below w.heap.size w W) => spMovesValid_c xs v W (hx.below hW) hz (by omega))
  have hle := dropM_nine xs
  have HP := Lib.hid (fun m hm => (dropM_mem (xs := xs) m hm).1)
  have HF := Lib.hid (fun ws wv A hx hl hp => l5Next_c ws wv A hx (by omega : ws.length ≤ 1048575) hp)
  have HNO := Lib.hid (next_none (xs := xs))
  have HSO := Lib.hid (fun i hi h => next_some (xs := xs) (i := i) hi h)
  have HIV : Hid (mvalid xs = false → dropM xs = []) := fun h => by unfold dropM; rw [h]; rfl
  clear hx hz
  go_enter Try.func26, Try.ntmps26
  go_wp2_with (go_at_call 15; refine HD.out.mono ?_; rintro e w1 ⟨v1, rfl, ho1, hb1⟩; refine held ?_)
  unfold Held
  have hb01 := hb0.trans (hb1.mono (by simp))
  have hN1 := hN0.keep hb1
  have hs1 := hb01.size
  have hrd1 : RdM w1 v1 (dropM xs) := Rd.of_own ho1
  have hfa := HF.out (dropM xs) v1 w1 hrd1 (by omega) HP.out
  obtain ⟨A, cap, rfl, hn1, hc1, hcell⟩ := hrd1.open
  clear hb1 hN0 hb0 ho1 HD
  rcases aheadZ_lt (dropM xs) with hz | ⟨i, hi, hz, ha⟩
  · obtain ⟨h1, h2⟩ := HNO.out hz
    have H1 := Lib.hid h1
    have H2 := Lib.hid h2
    rw [hz] at hfa
    clear h1 h2 hz hcell
    generalize dropM xs = ds at *
    go_wp2_with (go_at_call 64; refine hfa.mono ?_; rintro e w2 ⟨rfl, hb2⟩; refine held ?_)
    unfold Held
    have hB := hb01.trans (hb2.mono hs1)
    have hN2 := hN1.keep hb2
    have q1 : w2.cell? ⟨w.heap.size, 0, none⟩ = some (.string ⟨#[]⟩) := hN2.cell 0
    have q2 : w2.cell? ⟨w.heap.size, 1, none⟩ = some (.string ⟨#[]⟩) := hN2.cell 1
    have z1 := hN2.frozen 0
    have z2 := hN2.frozen 1
    have hl := hN2.lt
    have hs2 := hB.size
    clear hb2 hN1 hfa
    go_wp2
    refine bodyPost_ret (v := .tuple #[.agg #[.string ⟨#[]⟩, .string ⟨#[]⟩], .bool false]) (results_mv _ Try.results26 _ w.heap.size _ _ _ ?_ _ rfl rfl) rfl ⟨by rw [H1.out, H2.out], by (repeat' (first | (with_reducible exact Below.refl _ _) | (with_reducible assumption) | (with_reducible refine Below.alloc ?_ ?_ _) | (with_reducible refine Below.drew ?_) | (with_reducible refine Below.setCell ?_ ?_ _) | (with_reducible exact Nat.le_refl _) | omega | ((repeat (first | rewrite [World.size_alloc] | rewrite [World.size_setCell] | rewrite [World.size_drew])); omega) | (simp; omega) | (simp; done)))⟩
    have := (hN2.set 0 (.string ⟨#[]⟩)).set 1 (.string ⟨#[]⟩)
    simpa using this
  · obtain ⟨h1, h2⟩ := HSO.out i hi ha
    have hm : mvalid xs = true := by
      rcases Bool.eq_false_or_eq_true (mvalid xs) with hm | hm
      · exact hm
      · rw [HIV.out hm] at hi; simp at hi
    have H1 := Lib.hid h1
    have H2 := Lib.hid h2
    rw [hz] at hfa
    obtain ⟨b, off, rfl, hbl, d1, d2⟩ := hcell i hi
    have i0 : (0 : Int) ≤ (i : Int) := by omega
    have i1 : (i : Int) < ((dropM xs).length : Int) := by omega
    clear h1 h2 hz hcell ha
    generalize (dropM xs)[i] = m at *
    generalize dropM xs = ds at *
    go_wp2_with (go_at_call 64; refine hfa.mono ?_; rintro e w2 ⟨rfl, hb2⟩; refine held ?_)
    unfold Held
    have hB2 := hb01.trans (hb2.mono hs1)
    have hN2 := hN1.keep hb2
    have e1 := (hb2.cell (p := ⟨b, off + i * 2, none⟩) hbl).trans d1
    have e2 := (hb2.cell (p := ⟨b, off + i * 2 + 1, none⟩) hbl).trans d2
    have hbl2 := Nat.lt_of_lt_of_le hbl hb2.size
    have hs2 := hB2.size
    have hmv := HX.out _ hB2
    rw [hm] at hmv
    clear hb2 hN1 hfa d1 d2
    go_wp2_with (go_at_call 41; refine hmv.mono ?_; rintro e w3 ⟨rfl, hb3⟩; refine held ?_)
    unfold Held
    have hB := hB2.trans (hb3.mono hs2)
    have hN3 := hN2.keep hb3
    have q1 : w3.cell? ⟨w.heap.size, 0, none⟩ = some (.string ⟨#[]⟩) := hN3.cell 0
    have q2 : w3.cell? ⟨w.heap.size, 1, none⟩ = some (.string ⟨#[]⟩) := hN3.cell 1
    have z1 := hN3.frozen 0
    have z2 := hN3.frozen 1
    have f1 := (hb3.cell (p := ⟨b, off + i * 2, none⟩) hbl2).trans e1
    have f2 := (hb3.cell (p := ⟨b, off + i * 2 + 1, none⟩) hbl2).trans e2
    have hl := hN3.lt
    have hs3 := hB.size
    clear hb3 hN2 hmv e1 e2
    go_wp2
    refine bodyPost_ret (v := .tuple #[.agg #[.string m.1, .string m.2], .bool true]) (results_mv _ Try.results26 _ w.heap.size _ _ _ ?_ _ rfl rfl) rfl ⟨by rw [H1.out, H2.out], by (repeat' (first | (with_reducible exact Below.refl _ _) | (with_reducible assumption) | (with_reducible refine Below.alloc ?_ ?_ _) | (with_reducible refine Below.drew ?_) | (with_reducible refine Below.setCell ?_ ?_ _) | (with_reducible exact Nat.le_refl _) | omega | ((repeat (first | rewrite [World.size_alloc] | rewrite [World.size_setCell] | rewrite [World.size_drew])); omega) | (simp; omega) | (simp; done)))⟩
    have := (hN3.set 0 (.string m.1)).set 1 (.string m.2)
    simpa using this
end Go.Proofs.Ytdhhmphnmllbhaa
namespace Go.Proofs.Ytdhhmphnmllbhaa
open Go.RowKit Go.PM Go.ChangeShapes Go.WideShapes Go.Deep

theorem own : ownKnob Try.prog.godebug = none := by kernel_rfl
theorem laidOut : laidOutB Try.prog = true := by kernel_rfl

theorem exists_list {α : Type} (Q : Nat → α → Prop) : ∀ n, (∀ i, i < n → ∃ m, Q i m) → ∃ xs : List α, xs.length = n ∧ ∀ i (h : i < xs.length), Q i xs[i]
  | 0, _ => ⟨[], rfl, fun i h => absurd h (Nat.not_lt_zero _)⟩
  | n + 1, h => by
    obtain ⟨xs, hl, hx⟩ := exists_list Q n fun i hi => h i (by omega)
    obtain ⟨m, hm⟩ := h n (by omega)
    refine ⟨xs ++ [m], by simp [hl], fun i hi => ?_⟩
    by_cases h1 : i < xs.length
    · rw [List.getElem_append_left h1]; exact hx i h1
    · have h2 : i = xs.length := by simp at hi; omega
      subst h2
      rw [List.getElem_append_right (Nat.le_refl _)]
      simpa [hl] using hm

theorem rdM_mk {w : World} {ad : Addr} {cap : Nat} (xs : List Mv) (hc : xs.length ≤ cap) (hn : xs.length ≤ 9223372036854775807)
    (h : ∀ i (hi : i < xs.length), w.cell? (ad.add (i * 2)) = some (.string xs[i].1) ∧ w.cell? ((ad.add (i * 2)).add 1) = some (.string xs[i].2)) : RdM w (.slice (some ad) xs.length cap) xs := by
  refine ⟨some ad, cap, rfl, hc, hn, mcells_length xs, fun h0 => ?_⟩
  have h1 := (h 0 h0).1
  obtain ⟨b, off, spot⟩ := ad
  have hs : spot = none := by
    have := World.cell?_spot h1
    simpa [Addr.add] using this
  subst hs
  have hadd : ∀ o i, (Addr.mk b o none).add i = ⟨b, o + i, none⟩ := fun o i => by
    unfold Addr.add; split
    · next h => subst h; rfl
    · rfl
  refine ⟨b, off, rfl, ?_, fun j u hu => ?_⟩
  · rcases Nat.lt_or_ge b w.heap.size with hlt | hge
    · exact hlt
    · rw [hadd] at h1
      simp [World.cell?, Array.getElem?_eq_none hge] at h1
  · have hj : j < xs.length * 2 := by rw [← mcells_length]; exact (List.getElem?_eq_some_iff.1 hu).1
    have hk : j / 2 < xs.length := by omega
    have hm := mcells_at xs (j / 2) _ (List.getElem?_eq_getElem hk)
    have hh := h (j / 2) hk
    rw [hadd, hadd] at hh
    rcases Nat.mod_two_eq_zero_or_one j with h0 | h0
    · have e : j / 2 * 2 = j := by omega
      rw [e] at hm hh
      rw [hm.1] at hu
      rw [hh.1, hu]
    · have e : j / 2 * 2 + 1 = j := by omega
      rw [e] at hm
      rw [Nat.add_assoc, e] at hh
      rw [hm.2] at hu
      rw [hh.2, hu]

set_option maxRecDepth 100000 in
theorem open_moves {H : Type} {enc : TypeId × Value → H} {W : World} {base fuel : Nat} {spare : Nat → Bool} {held : Bool} {a : Option Addr} {n c : Nat} {x : DataW H × List MemPlace}
    (h : DataW.trod enc Try.prog W base spare held fuel 22 [.slice a n c] = some x) :
    ∃ xs : List Mv, RdM W (.slice a n c) xs ∧ ∀ m ∈ xs, m.1.size ≤ 9223372036854775807 ∧ m.2.size ≤ 9223372036854775807 := by
  rcases open_slice Try.underlying22 h with ⟨hcs, _⟩ | ⟨ad, len, cap, m, k, D, Pl, hcs, hb, hl, hm, hmm, hx, hi⟩
  · simp at hcs
    obtain ⟨rfl, rfl, rfl⟩ := hcs
    exact ⟨[], ⟨none, 0, rfl, by simp, by simp, rfl, by simp⟩, by simp⟩
  · simp at hcs
    obtain ⟨rfl, rfl, rfl⟩ := hcs
    have hC : Try.prog.cellsOf 59 = 2 := by kernel_rfl
    have hml : n ≤ m := by rw [hmm]; split <;> omega
    have hM : maxLen = 9223372036854775807 := rfl
    obtain ⟨xs, hxl, hxs⟩ := exists_list (fun i (m : Mv) => W.cell? (ad.add (i * 2)) = some (.string m.1) ∧ W.cell? ((ad.add (i * 2)).add 1) = some (.string m.2) ∧ m.1.size ≤ 9223372036854775807 ∧ m.2.size ≤ 9223372036854775807) n (fun i hin => by
      obtain ⟨cs', hc', ht⟩ := hi i (by omega)
      rw [hC] at hc'
      obtain ⟨y0, y1, k', _, hlen, h0, h1⟩ := trod_struct2 Try.underlying59 ht
      obtain ⟨_, hcl, hat⟩ := World.cells?_some hc'
      rw [hC] at hlen
      match cs', hlen with
      | [c0, c1], _ =>
        have e0 : Try.prog.cellsOf 9 = 1 := by kernel_rfl
        simp only [e0] at h0 h1
        simp at h0 h1
        obtain ⟨s, hs, _, hs1⟩ := DataW.trod_string Try.underlying9 h0
        obtain ⟨t, hta, _, ht1⟩ := DataW.trod_string Try.underlying9 h1
        simp at hs hta
        subst hs hta
        refine ⟨(s, t), ?_, ?_, hM ▸ hs1, hM ▸ ht1⟩
        · have := hat 0 (by omega)
          simpa [Addr.add] using this
        · have := hat 1 (by omega)
          simpa using this)
    subst hxl
    refine ⟨xs, rdM_mk xs hl (by omega) fun i hi => ⟨(hxs i hi).1, (hxs i hi).2.1⟩, fun m hm => ?_⟩
    obtain ⟨i, hi, rfl⟩ := List.getElem_of_mem hm
    exact (hxs i hi).2.2
end Go.Proofs.Ytdhhmphnmllbhaa
namespace Go.Proofs.Ytdhhmphnmllbhaa
open Go.RowKit Go.PM
open Go.ChangeShapes Go.WideShapes Go.Deep in
set_option maxRecDepth 100000 in
theorem open_bytes {H : Type} {enc : TypeId × Value → H} {W : World} {base fuel : Nat} {spare : Nat → Bool} {held : Bool} {a : Option Addr} {n c : Nat} {x : DataW H × List MemPlace}
    (h : DataW.trod enc Try.prog W base spare held fuel 30 [.slice a n c] = some x) : RdB W W.heap.size (.slice a n c) n := by
  rcases open_slice Try.underlying30 h with ⟨hcs, _⟩ | ⟨ad, len, cap, m, k, D, Pl, hcs, hb, hl, hm, hmm, hx, hi⟩
  · simp at hcs
    obtain ⟨rfl, rfl, rfl⟩ := hcs
    exact ⟨none, 0, rfl, by omega, by omega, fun k hk => absurd hk (Nat.not_lt_zero k)⟩
  · simp at hcs
    obtain ⟨rfl, rfl, rfl⟩ := hcs
    have hC : Try.prog.cellsOf 5 = 1 := by kernel_rfl
    have hml : n ≤ m := by rw [hmm]; split <;> omega
    have hM : maxLen = 9223372036854775807 := rfl
    have hcell : ∀ i, i < n → ∃ kk, W.cell? (ad.add i) = some (.int .u8 kk) ∧ 0 ≤ kk ∧ kk ≤ 255 := fun i hin => by
      obtain ⟨cs', hc', ht⟩ := hi i (by omega)
      rw [hC] at hc'
      obtain ⟨kk, hk, _, hwf⟩ := DataW.trod_int Try.underlying5 ht
      subst hk
      obtain ⟨_, hcl, hat⟩ := World.cells?_some hc'
      have h1 := hat 0 (by omega)
      refine ⟨kk, by simpa [Addr.add] using h1, ?_⟩
      simpa [Lit.wf, IntKind.min, IntKind.max, IntKind.signed, IntKind.bits] using hwf
    clear hi hx h
    refine ⟨some ad, c, rfl, by omega, by omega, fun i hin => ?_⟩
    obtain ⟨b, off, spot⟩ := ad
    have hs : spot = none := by
      obtain ⟨_, h0, _⟩ := hcell 0 (by omega)
      have := World.cell?_spot h0
      simpa [Addr.add] using this
    subst hs
    obtain ⟨kk, h1, hw1, hw2⟩ := hcell i hin
    have hadd : (Addr.mk b off none).add i = ⟨b, off + i, none⟩ := by
      unfold Addr.add; split
      · next h => subst h; rfl
      · rfl
    rw [hadd] at h1
    have hb : b < W.heap.size := by
      rcases Nat.lt_or_ge b W.heap.size with hlt | hge
      · exact hlt
      · simp [World.cell?, Array.getElem?_eq_none hge] at h1
    exact ⟨b, off, kk, rfl, hb, hb, h1, hw1, by omega⟩
end Go.Proofs.Ytdhhmphnmllbhaa
namespace Go.PM
open Go.RowKit
theorem nextV_small {xs : List Mv} (h : ∀ m ∈ xs, m.1.size ≤ 64 ∧ m.2.size ≤ 64) : (nextV xs).1.size ≤ 64 ∧ (nextV xs).2.size ≤ 64 := by
  cases ha : aheadI (dropM xs) with
  | none =>
    unfold nextV
    rw [ha]
    exact ⟨Nat.zero_le _, Nat.zero_le _⟩
  | some i =>
    obtain ⟨hi, _⟩ := aheadI_some ha
    rw [(next_some hi ha).2]
    exact h _ (dropM_mem _ (List.getElem_mem hi)).2.2.1
theorem rdB_more {w w' : World} {n : Nat} {v : Value} (h : RdB w w.heap.size v n) (hb : Below w.heap.size w w') : RdB w' w'.heap.size v n := by
  obtain ⟨A, cap, e, h1, h2, h3⟩ := h.keep (grown_below hb none) (fun r e => by cases e)
  refine ⟨A, cap, e, h1, h2, fun k hk => ?_⟩
  obtain ⟨b, off, c, e1, hb', hl, hc⟩ := h3 k hk
  exact ⟨b, off, c, e1, by have := hb.size; omega, hl, hc⟩
theorem rdr_lt {w : World} {t : TypeId} {B r : Nat} {p : Int} (h : Rdr w t B r p) : r < w.heap.size := by obtain ⟨_, _, v, n, _, _, h⟩ := h; exact h.lt
theorem two_at {w : World} {g : Nat} {t : TypeId} {a b : ByteArray} (h : At w g t #[.string a, .string b]) : w.cell? ⟨g, 0, none⟩ = some (.string a) ∧ w.cell? ⟨g, 1, none⟩ = some (.string b) := ⟨h.cell 0, h.cell 1⟩
end Go.PM
namespace Go.Proofs.Ytdhhmphnmllbhaa
open Go.RowKit Go.PM
attribute [local go_sem] Oper.semAt_some
theorem results_dm (fn : Func) (hr : fn.results = #[.tmp 2, .cell 3 37]) (W : World) (b : Nat) (a c : ByteArray) (x : Value) (hA : At W b 37 #[.string a, .string c]) (tmps : Array Value) (h2 : tmps.getD 3 undef = .pointer (some ⟨b, 0, none⟩)) (h3 : tmps.getD 2 undef = x) :
    (results fn tmps).run Try.prog W = .ok (.tuple #[x, .agg #[.string a, .string c]]) W := by
  have q0 := hA.cell 0
  have q1 := hA.cell 1
  simp at q0 q1
  simp only [Array.getD_eq_getD_getElem?] at h2 h3
  simp [results, hr, go_sem, h2, h3, q0, q1]

theorem fin_cells {w W : World} {u : Value} {xs : List Mv} {t : TypeId} {a b : ByteArray} (n1 n2 : ByteArray) (hA : At W w.heap.size t #[.string a, .string b]) (ho : W.ownsRow w.heap.size 37 2 u xs.length (mcells xs))
    (hge : ∀ g, u.ownBlock = some g → w.heap.size < g) (hB : Below w.heap.size w W) :
    At ((W.setCell ⟨w.heap.size, 0, none⟩ (.string n1)).setCell ⟨w.heap.size, 1, none⟩ (.string n2)) w.heap.size t #[.string n1, .string n2] ∧
    ((W.setCell ⟨w.heap.size, 0, none⟩ (.string n1)).setCell ⟨w.heap.size, 1, none⟩ (.string n2)).ownsRow w.heap.size 37 2 u xs.length (mcells xs) ∧
    Below w.heap.size w ((W.setCell ⟨w.heap.size, 0, none⟩ (.string n1)).setCell ⟨w.heap.size, 1, none⟩ (.string n2)) := by
  have h1 : At ((W.setCell ⟨w.heap.size, 0, none⟩ (.string n1)).setCell ⟨w.heap.size, 1, none⟩ (.string n2)) w.heap.size t #[.string n1, .string n2] := by
    have := (hA.set 0 (.string n1)).set 1 (.string n2)
    simpa using this
  have g1 := grown_set W w.heap.size 0 (.string n1)
  have g2 := grown_set (W.setCell ⟨w.heap.size, 0, none⟩ (.string n1)) w.heap.size 1 (.string n2)
  have hne : u.ownBlock ≠ some w.heap.size := fun e => by have := hge _ e; omega
  exact ⟨h1, own_grown (own_grown ho g1 (.inl hne)) g2 (.inl hne), (hB.setCell (Nat.le_refl _) _).setCell (Nat.le_refl _) _⟩

set_option maxRecDepth 100000 in
set_option maxHeartbeats 1200000 in
theorem drawRestBehind_c (w : World) (v : Value) (n : Nat) (hv : RdB w w.heap.size v n) :
    Calls Try.prog 22 #[v] w fun e w' => ∃ u xs a b, e = .returned (.tuple #[u, .agg #[.string a, .string b]]) ∧ w'.ownsRow w.heap.size 37 2 u xs.length (mcells xs) ∧ (xs.length ≤ 65 ∧ ∀ m ∈ xs, m.1.size ≤ 64 ∧ m.2.size ≤ 64) ∧ a.size ≤ 64 ∧ b.size ≤ 64 ∧ Below w.heap.size w w' := by
  obtain ⟨W0, hW0⟩ : ∃ W0 : World, W0 = w.alloc (.cells #[.string ⟨#[]⟩, .string ⟨#[]⟩] 37) := ⟨_, rfl⟩
  have hS0 : W0.heap.size = w.heap.size + 1 := by rw [hW0]; simp only [World.size_alloc]
  have hA0 : At W0 w.heap.size 37 #[.string ⟨#[]⟩, .string ⟨#[]⟩] := by rw [hW0]; exact At.new w _ _
  have hb0 : Below w.heap.size w W0 := by rw [hW0]; exact (Below.refl _ _).alloc (Nat.le_refl _) _
  have HO := Lib.hid (l13Open_c W0 v n (rdB_more hv hb0))
  go_enter Try.func22, Try.ntmps22
  go_wp2_with fail
  rw [← hW0]
  clear hW0
  refine HO.out.mono ?_
  rintro e w1 ⟨r, rfl, R1, b1⟩
  have hs1 := b1.size
  have hB := R1.1
  have hA1 := hA0.keep b1
  have B1 := hb0.trans (b1.mono hb0.size)
  clear HO hA0 hb0 b1
  have HS := Lib.hid (l1Some_c w1 _ r 0 R1 (by omega))
  go_wp2_with fail
  refine HS.out.mono ?_
  rintro e w2 ⟨u, xs, p', rfl, ho, hsh, R2, hp, g2⟩
  have HSH := Lib.hid hsh
  have hne1 : some w.heap.size ≠ some r := fun e => by have := Option.some.inj e; omega
  have hA2 := hA1.grown g2 hne1
  have B2 : Below w.heap.size w w2 := B1.trans (below_grown g2 B1.size (fun g e => by cases e; omega))
  have ho2 := own_more ho (show w.heap.size ≤ w1.heap.size from B1.size)
  have hs2 := B2.size
  have hgeo := own_block_ge ho
  have hrl : r < w1.heap.size := by obtain ⟨_, _, v, n, _, _, h⟩ := R1; exact h.lt
  have hrd2 : RdM w2 u xs := Rd.of_own ho2
  have HNX := Lib.hid (spNextMove_c xs u w2 hrd2 (fun m hm => by have := hsh.2 m hm; omega) (by have := hsh.1; omega))
  have HNV := Lib.hid (nextV_small hsh.2)
  have hlen := hsh.1
  clear HS hsh hrd2 ho
  go_wp2_with fail
  refine HNX.out.mono ?_
  rintro e w3 ⟨rfl, h3⟩
  have B3 := B2.trans (h3.mono hs2)
  have hs3 := B3.size
  have R3 := R2.keep h3
  have h3s := h3.size
  have ho3 := own_keep ho2 h3
  have hA3 := hA2.keep h3
  have hz1 := HNV.out.1
  have hz2 := HNV.out.2
  have hM3 := At.new w3 37 #[.string (nextV xs).1, .string (nextV xs).2]
  have B3a := B3.alloc hs3 (.cells #[.string (nextV xs).1, .string (nextV xs).2] 37)
  have R3a := R3.keep ((Below.refl _ _).alloc (Nat.le_refl _) (.cells #[.string (nextV xs).1, .string (nextV xs).2] 37))
  have ho3a := own_keep ho3 ((Below.refl _ _).alloc (Nat.le_refl _) (.cells #[.string (nextV xs).1, .string (nextV xs).2] 37))
  have hA3a := hA3.alloc (.cells #[.string (nextV xs).1, .string (nextV xs).2] 37)
  have hs3a := B3a.size
  have hS3a : (w3.alloc (.cells #[.string (nextV xs).1, .string (nextV xs).2] 37)).heap.size = w3.heap.size + 1 := World.size_alloc _ _
  clear HNX h3 R2 ho2 hA2 B2 R3 ho3 hA3 B3 HNV
  generalize (nextV xs).1 = n1 at *
  generalize (nextV xs).2 = n2 at *
  have HR1 : Hid (∀ (W : World) (x : Value) (a b : ByteArray), a.size ≤ 64 → b.size ≤ 64 → W.ownsRow w.heap.size 37 2 x xs.length (mcells xs) → At W w.heap.size 37 #[.string a, .string b] → Below w.heap.size w W →
    ∃ u xs a' b', Ending.returned (.tuple #[x, .agg #[.string a, .string b]]) = .returned (.tuple #[u, .agg #[.string a', .string b']]) ∧ W.ownsRow w.heap.size 37 2 u xs.length (mcells xs) ∧ (xs.length ≤ 65 ∧ ∀ m ∈ xs, m.1.size ≤ 64 ∧ m.2.size ≤ 64) ∧ a'.size ≤ 64 ∧ b'.size ≤ 64 ∧ Below w.heap.size w W) := fun W x a b h1 h2 h3 h4 h5 => ⟨x, xs, a, b, rfl, h3, HSH.out, h1, h2, h5⟩
  have HP := Lib.hid (fun (W : World) (n q : Int) (R : Rdr W 111 W0.heap.size r q) h1 h2 h3 => pick_c W _ r n q R h1 h2 h3)
  rcases Bool.eq_false_or_eq_true (nextB xs) with hb | hb
  · rw [hb]
    go_wp2_with fail
    refine (HP.out _ 4 p' R3a (by omega) (by omega) (by omega)).mono ?_
    rintro e w4 ⟨k, rfl, k0, k1, R4, g4⟩
    have ho4 := own_grown ho3a g4 (.inl (fun e => by have := hgeo r e; omega))
    have hA4 := hA3a.grown g4 hne1
    have hM4 := hM3.grown g4 (fun e => by have := Option.some.inj e; have := h3s; have := g2.size; omega)
    have B4 : Below w.heap.size w w4 := B3a.trans (below_grown g4 hs3a (fun g e => by cases e; omega))
    have hs4 := B4.size
    have HFC := Lib.hid (fin_cells n1 n2 hA4 ho4 (fun g e => by have := hgeo g e; omega) B4)
    by_cases h0 : k > 0
    · have t0 : decide (k > 0) = true := decide_eq_true h0
      obtain ⟨c1, c2⟩ := two_at hM4
      obtain ⟨q1, q2⟩ := two_at hA4
      have z1 := hA4.frozen 0
      have z2 := hA4.frozen 1
      have hl := hA4.lt
      clear hA4 hM4 hA3a hM3 R4 g4 g2 ho4 B4
      go_wp2
      go_region
      all_goals
        go_wp2
        refine bodyPost_ret (v := .tuple #[u, .agg #[.string n1, .string n2]]) (results_dm _ Try.results22 _ w.heap.size n1 n2 u ?_ _ rfl rfl) rfl (HR1.out _ u n1 n2 hz1 hz2 ?_ ?_ ?_)
        · first | exact HFC.out.1
        · first | exact HFC.out.2.1
        · first | exact HFC.out.1
        · first | exact HFC.out.2.2 | exact HFC.out.2.2.drew
    · have t0 : decide (k > 0) = false := decide_eq_false h0
      clear HFC hM4 hA3a hM3 R3a B3a ho3a g4 g2 hs3a
      by_cases hl0 : 0 < xs.length
      · have t1 : decide ((xs.length : Int) > 0) = true := by simp; omega
        obtain ⟨A, cap, hu, _⟩ := RdM.open (w := w4) (v := u) (xs := xs) (Rd.of_own ho4)
        subst hu
        go_wp2_with fail
        refine (HP.out _ 2 (p' + 1) R4 (by omega) (by omega) (by omega)).mono ?_
        rintro e wx ⟨k5, rfl, k50, k51, Rx, gx⟩
        have hox := own_grown ho4 gx (.inl (fun e => by have := hgeo r e; omega))
        have hAx := hA4.grown gx hne1
        have Bx := B4.trans (below_grown gx B4.size (fun g e => by cases e; omega))
        clear ho4 hA4 B4 R4 gx
        by_cases h5 : k5 = 0
        · subst h5
          obtain ⟨q1, q2⟩ := two_at hAx
          obtain ⟨_, _, hu2, hn2, hc2, hcell⟩ := RdM.open (w := wx) (v := .slice A xs.length cap) (xs := xs) (Rd.of_own hox)
          cases hu2
          obtain ⟨bA, offA, eA, _⟩ := hcell 0 hl0
          subst eA
          have HPX : Hid (∀ (W : World) (hd : W = wx ∨ W = wx.drew), Calls Try.prog 50 #[.pointer (some ⟨r, 0, none⟩), .int .i64 (xs.length : Int)] W fun e w' => ∃ (K : Nat) (s1 s2 : ByteArray), e = .returned (.int .i64 (K : Int)) ∧ (K : Int) < (xs.length : Int) ∧
              w'.cell? ⟨bA, offA + K * 2, none⟩ = some (.string s1) ∧ w'.cell? ⟨bA, offA + K * 2 + 1, none⟩ = some (.string s2) ∧ s1.size ≤ 64 ∧ s2.size ≤ 64 ∧
              w'.cell? ⟨w.heap.size, 0, none⟩ = some (.string ⟨#[]⟩) ∧ w'.cell? ⟨w.heap.size, 1, none⟩ = some (.string ⟨#[]⟩) ∧ w'.frozen? ⟨w.heap.size, 0, none⟩ = false ∧ w'.frozen? ⟨w.heap.size, 1, none⟩ = false ∧ w.heap.size < w'.heap.size ∧
              Hid (At ((w'.setCell ⟨w.heap.size, 0, none⟩ (.string s1)).setCell ⟨w.heap.size, 1, none⟩ (.string s2)) w.heap.size 37 #[.string s1, .string s2] ∧ ((w'.setCell ⟨w.heap.size, 0, none⟩ (.string s1)).setCell ⟨w.heap.size, 1, none⟩ (.string s2)).ownsRow w.heap.size 37 2 (.slice (some ⟨bA, offA, none⟩) xs.length cap) xs.length (mcells xs) ∧ Below w.heap.size w ((w'.setCell ⟨w.heap.size, 0, none⟩ (.string s1)).setCell ⟨w.heap.size, 1, none⟩ (.string s2)))) := fun W hd => (HP.out W (xs.length : Int) (p' + 1 + 1) (by rcases hd with rfl | rfl <;> exact Rx) (by omega) (by omega) (by omega)).mono fun e w' hh => by
            obtain ⟨k6, rfl, k60, k61, R6, g6⟩ := hh
            obtain ⟨K, rfl⟩ := Int.eq_ofNat_of_zero_le k60
            have hK : K < xs.length := by omega
            have g : wx.grownBy w' (some r) := by rcases hd with rfl | rfl <;> exact ⟨g6.os, g6.tape, g6.output, g6.size, g6.block⟩
            have h1 := own_grown hox g (.inl (fun e => by have := hgeo r e; omega))
            obtain ⟨_, _, e1, _, _, hc⟩ := RdM.open (w := w') (v := .slice (some ⟨bA, offA, none⟩) xs.length cap) (xs := xs) (Rd.of_own h1)
            obtain ⟨b, off, e2, _, d1, d2⟩ := hc K hK
            cases e1
            cases e2
            have hA6 := hAx.grown g hne1
            have hkz := HSH.out.2 _ (List.getElem_mem hK)
            exact ⟨K, xs[K].1, xs[K].2, rfl, k61, d1, d2, hkz.1, hkz.2, (two_at hA6).1, (two_at hA6).2, hA6.frozen 0, hA6.frozen 1, hA6.lt, fin_cells xs[K].1 xs[K].2 hA6 h1 (fun g e => by have := hgeo g e; omega) (Bx.trans (below_grown g Bx.size (fun g e => by cases e; omega)))⟩
          clear hcell hox hAx Bx Rx q1 q2
          go_wp2
          go_region_with (go_at_call 50; refine (HPX.out _ (by first | exact .inl rfl | exact .inr rfl)).mono ?_; rintro e w6 ⟨K, s1, s2, rfl, k61, d1, d2, hy1', hy2', q1, q2, z1, z2, hl, HFC⟩)
          all_goals
            go_wp2
            refine bodyPost_ret (v := .tuple #[(.slice (some ⟨bA, offA, none⟩) xs.length cap), .agg #[.string s1, .string s2]]) (results_dm _ Try.results22 _ w.heap.size s1 s2 (.slice (some ⟨bA, offA, none⟩) xs.length cap) ?_ _ rfl rfl) rfl (HR1.out _ (.slice (some ⟨bA, offA, none⟩) xs.length cap) s1 s2 hy1' hy2' ?_ ?_ ?_)
            · first | exact HFC.out.1
            · first | exact HFC.out.2.1
            · first | exact HFC.out.1
            · first | exact HFC.out.2.2 | exact HFC.out.2.2.drew
        · have t5 : (k5 == 0) = false := by simpa using h5
          obtain ⟨q1, q2⟩ := two_at hAx
          have hsz := Bx.size
          have hrw := rdr_lt Rx
          go_wp2_with fail
          refine (of_c _ _ r _ 3 (p' + 1 + 1) (fun s => s.size ≤ 40) (Rx.keep ((Below.refl _ _).alloc (Nat.le_refl _) _)) (by decide) (by decide) (by omega) (Lits.strs _ _ _ 40 (by rfl)) (by omega)).mono ?_
          rintro e wy ⟨s1, rfl, hy1, Ry, gy⟩
          have hoy := own_grown (own_keep hox ((Below.refl _ _).alloc (Nat.le_refl _) _)) gy (.inl (fun e => by have := hgeo r e; omega))
          have hAy := (hAx.alloc _).grown gy hne1
          have By := (Bx.alloc hsz _).trans (below_grown gy (by simp; omega) (fun g e => by cases e; omega))
          have hsy := By.size
          have hgy := gy.size
          simp only [World.size_alloc] at hgy
          have hry := rdr_lt Ry
          clear hAx hox Rx Bx gy q1 q2
          go_wp2_with fail
          refine (of_c _ _ r wy.heap.size 3 (p' + 1 + 1 + 1) (fun s => s.size ≤ 40) (Ry.keep ((Below.refl _ _).alloc (Nat.le_refl _) _)) (by decide) (by decide) (by omega) (Lits.strs _ _ _ 40 (by rfl)) (by omega)).mono ?_
          rintro e wz ⟨s2, rfl, hy2, Rz, gz⟩
          have hoz := own_grown (own_keep hoy ((Below.refl _ _).alloc (Nat.le_refl _) _)) gz (.inl (fun e => by have := hgeo r e; omega))
          have hAz := (hAy.alloc _).grown gz hne1
          have Bz := (By.alloc hsy _).trans (below_grown gz (by simp; omega) (fun g e => by cases e; omega))
          have HFC := Lib.hid (fin_cells s1 s2 hAz hoz (fun g e => by have := hgeo g e; omega) Bz)
          obtain ⟨q1, q2⟩ := two_at hAz
          have z1 := hAz.frozen 0
          have z2 := hAz.frozen 1
          have hl := hAz.lt
          have hy1' : s1.size ≤ 64 := by omega
          have hy2' : s2.size ≤ 64 := by omega
          clear hAy hoy By hAz hoz Bz Ry Rz gz
          go_wp2
          refine bodyPost_ret (v := .tuple #[(.slice A xs.length cap), .agg #[.string s1, .string s2]]) (results_dm _ Try.results22 _ w.heap.size s1 s2 (.slice A xs.length cap) ?_ _ rfl rfl) rfl (HR1.out _ (.slice A xs.length cap) s1 s2 hy1' hy2' ?_ ?_ ?_)
          · first | exact HFC.out.1
          · first | exact HFC.out.2.1
          · first | exact HFC.out.1
          · first | exact HFC.out.2.2 | exact HFC.out.2.2.drew
      · have t1 : decide ((xs.length : Int) > 0) = false := decide_eq_false (by omega)
        have t2 : decide (0 < xs.length) = false := decide_eq_false (by omega)
        have t3 : decide ((0 : Int) < (xs.length : Int)) = false := decide_eq_false (by omega)
        clear hl0
        obtain ⟨A, cap, hu, _⟩ := RdM.open (w := w4) (v := u) (xs := xs) (Rd.of_own ho4)
        subst hu
        obtain ⟨q1, q2⟩ := two_at hA4
        have hsz := B4.size
        have hrw := rdr_lt R4
        go_wp2_with fail
        refine (of_c _ _ r _ 3 (p' + 1) (fun s => s.size ≤ 40) (R4.keep ((Below.refl _ _).alloc (Nat.le_refl _) _)) (by decide) (by decide) (by omega) (Lits.strs _ _ _ 40 (by rfl)) (by omega)).mono ?_
        rintro e wy ⟨s1, rfl, hy1, Ry, gy⟩
        have hoy := own_grown (own_keep ho4 ((Below.refl _ _).alloc (Nat.le_refl _) _)) gy (.inl (fun e => by have := hgeo r e; omega))
        have hAy := (hA4.alloc _).grown gy hne1
        have By := (B4.alloc hsz _).trans (below_grown gy (by simp; omega) (fun g e => by cases e; omega))
        have hsy := By.size
        have hgy := gy.size
        simp only [World.size_alloc] at hgy
        have hry := rdr_lt Ry
        clear hA4 ho4 R4 B4 gy q1 q2
        go_wp2_with fail
        refine (of_c _ _ r wy.heap.size 3 (p' + 1 + 1) (fun s => s.size ≤ 40) (Ry.keep ((Below.refl _ _).alloc (Nat.le_refl _) _)) (by decide) (by decide) (by omega) (Lits.strs _ _ _ 40 (by rfl)) (by omega)).mono ?_
        rintro e wz ⟨s2, rfl, hy2, Rz, gz⟩
        have hoz := own_grown (own_keep hoy ((Below.refl _ _).alloc (Nat.le_refl _) _)) gz (.inl (fun e => by have := hgeo r e; omega))
        have hAz := (hAy.alloc _).grown gz hne1
        have Bz := (By.alloc hsy _).trans (below_grown gz (by simp; omega) (fun g e => by cases e; omega))
        have HFC := Lib.hid (fin_cells s1 s2 hAz hoz (fun g e => by have := hgeo g e; omega) Bz)
        obtain ⟨q1, q2⟩ := two_at hAz
        have z1 := hAz.frozen 0
        have z2 := hAz.frozen 1
        have hl := hAz.lt
        have hy1' : s1.size ≤ 64 := by omega
        have hy2' : s2.size ≤ 64 := by omega
        clear hAy hoy By hAz hoz Bz Ry Rz gz
        go_wp2
        refine bodyPost_ret (v := .tuple #[(.slice A xs.length cap), .agg #[.string s1, .string s2]]) (results_dm _ Try.results22 _ w.heap.size s1 s2 (.slice A xs.length cap) ?_ _ rfl rfl) rfl (HR1.out _ (.slice A xs.length cap) s1 s2 hy1' hy2' ?_ ?_ ?_)
        · first | exact HFC.out.1
        · first | exact HFC.out.2.1
        · first | exact HFC.out.1
        · first | exact HFC.out.2.2 | exact HFC.out.2.2.drew
  · rw [hb]
    clear hM3 g2 hs3a
    by_cases hl0 : 0 < xs.length
    · have t1 : decide ((xs.length : Int) > 0) = true := by simp; omega
      obtain ⟨A, cap, hu, _⟩ := RdM.open (w := _) (v := u) (xs := xs) (Rd.of_own ho3a)
      subst hu
      go_wp2_with fail
      (try rw [← hS3a]); generalize hw4 : w3.alloc (.cells #[.string n1, .string n2] 37) = w4 at *; clear hS3a hw4; refine (HP.out _ 2 (p') R3a (by omega) (by omega) (by omega)).mono ?_
      rintro e wx ⟨k5, rfl, k50, k51, Rx, gx⟩
      have hox := own_grown ho3a gx (.inl (fun e => by have := hgeo r e; omega))
      have hAx := hA3a.grown gx hne1
      have Bx := B3a.trans (below_grown gx B3a.size (fun g e => by cases e; omega))
      clear ho3a hA3a B3a R3a gx
      by_cases h5 : k5 = 0
      · subst h5
        obtain ⟨q1, q2⟩ := two_at hAx
        obtain ⟨_, _, hu2, hn2, hc2, hcell⟩ := RdM.open (w := wx) (v := .slice A xs.length cap) (xs := xs) (Rd.of_own hox)
        cases hu2
        obtain ⟨bA, offA, eA, _⟩ := hcell 0 hl0
        subst eA
        have HPX : Hid (∀ (W : World) (hd : W = wx ∨ W = wx.drew), Calls Try.prog 50 #[.pointer (some ⟨r, 0, none⟩), .int .i64 (xs.length : Int)] W fun e w' => ∃ (K : Nat) (s1 s2 : ByteArray), e = .returned (.int .i64 (K : Int)) ∧ (K : Int) < (xs.length : Int) ∧
            w'.cell? ⟨bA, offA + K * 2, none⟩ = some (.string s1) ∧ w'.cell? ⟨bA, offA + K * 2 + 1, none⟩ = some (.string s2) ∧ s1.size ≤ 64 ∧ s2.size ≤ 64 ∧
            w'.cell? ⟨w.heap.size, 0, none⟩ = some (.string ⟨#[]⟩) ∧ w'.cell? ⟨w.heap.size, 1, none⟩ = some (.string ⟨#[]⟩) ∧ w'.frozen? ⟨w.heap.size, 0, none⟩ = false ∧ w'.frozen? ⟨w.heap.size, 1, none⟩ = false ∧ w.heap.size < w'.heap.size ∧
            Hid (At ((w'.setCell ⟨w.heap.size, 0, none⟩ (.string s1)).setCell ⟨w.heap.size, 1, none⟩ (.string s2)) w.heap.size 37 #[.string s1, .string s2] ∧ ((w'.setCell ⟨w.heap.size, 0, none⟩ (.string s1)).setCell ⟨w.heap.size, 1, none⟩ (.string s2)).ownsRow w.heap.size 37 2 (.slice (some ⟨bA, offA, none⟩) xs.length cap) xs.length (mcells xs) ∧ Below w.heap.size w ((w'.setCell ⟨w.heap.size, 0, none⟩ (.string s1)).setCell ⟨w.heap.size, 1, none⟩ (.string s2)))) := fun W hd => (HP.out W (xs.length : Int) (p' + 1) (by rcases hd with rfl | rfl <;> exact Rx) (by omega) (by omega) (by omega)).mono fun e w' hh => by
          obtain ⟨k6, rfl, k60, k61, R6, g6⟩ := hh
          obtain ⟨K, rfl⟩ := Int.eq_ofNat_of_zero_le k60
          have hK : K < xs.length := by omega
          have g : wx.grownBy w' (some r) := by rcases hd with rfl | rfl <;> exact ⟨g6.os, g6.tape, g6.output, g6.size, g6.block⟩
          have h1 := own_grown hox g (.inl (fun e => by have := hgeo r e; omega))
          obtain ⟨_, _, e1, _, _, hc⟩ := RdM.open (w := w') (v := .slice (some ⟨bA, offA, none⟩) xs.length cap) (xs := xs) (Rd.of_own h1)
          obtain ⟨b, off, e2, _, d1, d2⟩ := hc K hK
          cases e1
          cases e2
          have hA6 := hAx.grown g hne1
          have hkz := HSH.out.2 _ (List.getElem_mem hK)
          exact ⟨K, xs[K].1, xs[K].2, rfl, k61, d1, d2, hkz.1, hkz.2, (two_at hA6).1, (two_at hA6).2, hA6.frozen 0, hA6.frozen 1, hA6.lt, fin_cells xs[K].1 xs[K].2 hA6 h1 (fun g e => by have := hgeo g e; omega) (Bx.trans (below_grown g Bx.size (fun g e => by cases e; omega)))⟩
        clear hcell hox hAx Bx Rx q1 q2
        go_wp2
        go_region_with (go_at_call 50; refine (HPX.out _ (by first | exact .inl rfl | exact .inr rfl)).mono ?_; rintro e w6 ⟨K, s1, s2, rfl, k61, d1, d2, hy1', hy2', q1, q2, z1, z2, hl, HFC⟩)
        all_goals
          go_wp2
          refine bodyPost_ret (v := .tuple #[(.slice (some ⟨bA, offA, none⟩) xs.length cap), .agg #[.string s1, .string s2]]) (results_dm _ Try.results22 _ w.heap.size s1 s2 (.slice (some ⟨bA, offA, none⟩) xs.length cap) ?_ _ rfl rfl) rfl (HR1.out _ (.slice (some ⟨bA, offA, none⟩) xs.length cap) s1 s2 hy1' hy2' ?_ ?_ ?_)
          · first | exact HFC.out.1
          · first | exact HFC.out.2.1
          · first | exact HFC.out.1
          · first | exact HFC.out.2.2 | exact HFC.out.2.2.drew
      · have t5 : (k5 == 0) = false := by simpa using h5
        obtain ⟨q1, q2⟩ := two_at hAx
        have hsz := Bx.size
        have hrw := rdr_lt Rx
        go_wp2_with fail
        refine (of_c _ _ r _ 3 (p' + 1) (fun s => s.size ≤ 40) (Rx.keep ((Below.refl _ _).alloc (Nat.le_refl _) _)) (by decide) (by decide) (by omega) (Lits.strs _ _ _ 40 (by rfl)) (by omega)).mono ?_
        rintro e wy ⟨s1, rfl, hy1, Ry, gy⟩
        have hoy := own_grown (own_keep hox ((Below.refl _ _).alloc (Nat.le_refl _) _)) gy (.inl (fun e => by have := hgeo r e; omega))
        have hAy := (hAx.alloc _).grown gy hne1
        have By := (Bx.alloc hsz _).trans (below_grown gy (by simp; omega) (fun g e => by cases e; omega))
        have hsy := By.size
        have hgy := gy.size
        simp only [World.size_alloc] at hgy
        have hry := rdr_lt Ry
        clear hAx hox Rx Bx gy q1 q2
        go_wp2_with fail
        refine (of_c _ _ r wy.heap.size 3 (p' + 1 + 1) (fun s => s.size ≤ 40) (Ry.keep ((Below.refl _ _).alloc (Nat.le_refl _) _)) (by decide) (by decide) (by omega) (Lits.strs _ _ _ 40 (by rfl)) (by omega)).mono ?_
        rintro e wz ⟨s2, rfl, hy2, Rz, gz⟩
        have hoz := own_grown (own_keep hoy ((Below.refl _ _).alloc (Nat.le_refl _) _)) gz (.inl (fun e => by have := hgeo r e; omega))
        have hAz := (hAy.alloc _).grown gz hne1
        have Bz := (By.alloc hsy _).trans (below_grown gz (by simp; omega) (fun g e => by cases e; omega))
        have HFC := Lib.hid (fin_cells s1 s2 hAz hoz (fun g e => by have := hgeo g e; omega) Bz)
        obtain ⟨q1, q2⟩ := two_at hAz
        have z1 := hAz.frozen 0
        have z2 := hAz.frozen 1
        have hl := hAz.lt
        have hy1' : s1.size ≤ 64 := by omega
        have hy2' : s2.size ≤ 64 := by omega
        clear hAy hoy By hAz hoz Bz Ry Rz gz
        go_wp2
        refine bodyPost_ret (v := .tuple #[(.slice A xs.length cap), .agg #[.string s1, .string s2]]) (results_dm _ Try.results22 _ w.heap.size s1 s2 (.slice A xs.length cap) ?_ _ rfl rfl) rfl (HR1.out _ (.slice A xs.length cap) s1 s2 hy1' hy2' ?_ ?_ ?_)
        · first | exact HFC.out.1
        · first | exact HFC.out.2.1
        · first | exact HFC.out.1
        · first | exact HFC.out.2.2 | exact HFC.out.2.2.drew
    · have t1 : decide ((xs.length : Int) > 0) = false := decide_eq_false (by omega)
      have t2 : decide (0 < xs.length) = false := decide_eq_false (by omega)
      have t3 : decide ((0 : Int) < (xs.length : Int)) = false := decide_eq_false (by omega)
      clear hl0
      obtain ⟨A, cap, hu, _⟩ := RdM.open (w := _) (v := u) (xs := xs) (Rd.of_own ho3a)
      subst hu
      obtain ⟨q1, q2⟩ := two_at hA3a
      have hsz := B3a.size
      have hrw := rdr_lt R3a
      go_wp2_with fail
      (try rw [← hS3a]); generalize hw4 : w3.alloc (.cells #[.string n1, .string n2] 37) = w4 at *; clear hS3a hw4; refine (of_c _ _ r _ 3 (p') (fun s => s.size ≤ 40) (R3a.keep ((Below.refl _ _).alloc (Nat.le_refl _) _)) (by decide) (by decide) (by omega) (Lits.strs _ _ _ 40 (by rfl)) (by omega)).mono ?_
      rintro e wy ⟨s1, rfl, hy1, Ry, gy⟩
      have hoy := own_grown (own_keep ho3a ((Below.refl _ _).alloc (Nat.le_refl _) _)) gy (.inl (fun e => by have := hgeo r e; omega))
      have hAy := (hA3a.alloc _).grown gy hne1
      have By := (B3a.alloc hsz _).trans (below_grown gy (by simp; omega) (fun g e => by cases e; omega))
      have hsy := By.size
      have hgy := gy.size
      simp only [World.size_alloc] at hgy
      have hry := rdr_lt Ry
      clear hA3a ho3a R3a B3a gy q1 q2
      go_wp2_with fail
      refine (of_c _ _ r wy.heap.size 3 (p' + 1) (fun s => s.size ≤ 40) (Ry.keep ((Below.refl _ _).alloc (Nat.le_refl _) _)) (by decide) (by decide) (by omega) (Lits.strs _ _ _ 40 (by rfl)) (by omega)).mono ?_
      rintro e wz ⟨s2, rfl, hy2, Rz, gz⟩
      have hoz := own_grown (own_keep hoy ((Below.refl _ _).alloc (Nat.le_refl _) _)) gz (.inl (fun e => by have := hgeo r e; omega))
      have hAz := (hAy.alloc _).grown gz hne1
      have Bz := (By.alloc hsy _).trans (below_grown gz (by simp; omega) (fun g e => by cases e; omega))
      have HFC := Lib.hid (fin_cells s1 s2 hAz hoz (fun g e => by have := hgeo g e; omega) Bz)
      obtain ⟨q1, q2⟩ := two_at hAz
      have z1 := hAz.frozen 0
      have z2 := hAz.frozen 1
      have hl := hAz.lt
      have hy1' : s1.size ≤ 64 := by omega
      have hy2' : s2.size ≤ 64 := by omega
      clear hAy hoy By hAz hoz Bz Ry Rz gz
      go_wp2
      refine bodyPost_ret (v := .tuple #[(.slice A xs.length cap), .agg #[.string s1, .string s2]]) (results_dm _ Try.results22 _ w.heap.size s1 s2 (.slice A xs.length cap) ?_ _ rfl rfl) rfl (HR1.out _ (.slice A xs.length cap) s1 s2 hy1' hy2' ?_ ?_ ?_)
      · first | exact HFC.out.1
      · first | exact HFC.out.2.1
      · first | exact HFC.out.1
      · first | exact HFC.out.2.2 | exact HFC.out.2.2.drew
end Go.Proofs.Ytdhhmphnmllbhaa
namespace Go.Proofs.Ytdhhmphnmllbhaa
open Go.RowKit Go.PM
set_option maxRecDepth 100000 in
set_option maxHeartbeats 2000000 in
theorem eq_str (d : Nat) (a b : ByteArray) (W : World) : (Op.equalIn (d + 1) 9 (.string a) (.string b)).run Try.prog W = .ok (a == b) W := by
  simp [Op.equalIn, go_sem]
theorem eq_items (f g : Nat → ByteArray) (W : World) : ∀ is : List Nat, (∀ i ∈ is, i < 9) → (Op.eqItems 9999 9 1 (tabA f) (tabA g) is).run Try.prog W = .ok (is.all fun p => f p == g p) W := by
  intro is
  induction is with
  | nil => intro _; rfl
  | cons i is ih =>
    intro h
    have hi := h i (List.mem_cons_self ..)
    have h1 : (part 9 (tabA f) (i * 1)).run Try.prog W = .ok (.string (f i)) W := run_part_plain (P := Try.prog) W (by kernel_rfl) (by rw [Nat.mul_one]; exact tabC_at f i hi)
    have h2 : (part 9 (tabA g) (i * 1)).run Try.prog W = .ok (.string (g i)) W := run_part_plain (P := Try.prog) W (by kernel_rfl) (by rw [Nat.mul_one]; exact tabC_at g i hi)
    have h3 := eq_str 9998 (f i) (g i) W
    rw [Op.eqItems, Sem.run_bind, h1, Result.andThen_ok, Sem.run_bind, h2, Result.andThen_ok, Sem.run_bind, h3, Result.andThen_ok, List.all_cons]
    cases hb : (f i == g i)
    · rfl
    · rw [if_neg (by decide), ih (fun j hj => h j (List.mem_cons_of_mem _ hj)), Bool.true_and]
theorem eq_tab (f g : Nat → ByteArray) (W : World) : (Op.equal 62 (tabX f) (tabX g)).run Try.prog W = .ok ((List.range 9).all fun p => f p == g p) W := by
  have his : (Try.prog.info? 9).isSome = true := by kernel_rfl
  obtain ⟨i, hi⟩ := Option.isSome_iff_exists.1 his
  have hc : Try.prog.cellsOf 9 = 1 := by kernel_rfl
  have h := run_equalIn_array (P := Try.prog) (w := W) 9999 (t := 62) (e := 9) (n := 9) (tabA f) (tabA g) Try.underlying62 hi
  rw [hc] at h
  exact h.trans (eq_items f g W _ (fun i hi => by simpa using hi))
theorem beq_ba (a b : ByteArray) : (a == b) = decide (a = b) := by
  cases a with | mk a =>
  cases b with | mk b =>
  have h : ((ByteArray.mk a) == (ByteArray.mk b)) = (a == b) := rfl
  rw [h]
  by_cases e : a = b
  · subst e; simp
  · have : ¬ (ByteArray.mk a) = (ByteArray.mk b) := fun x => e (congrArg ByteArray.data x)
    simp [e]
theorem all_beq (f g : Nat → ByteArray) (l : List Nat) : (l.all fun p => f p == g p) = l.all fun p => decide (f p = g p) := by
  have : (fun p => f p == g p) = fun p => decide (f p = g p) := by funext p; exact beq_ba _ _
  rw [this]
end Go.Proofs.Ytdhhmphnmllbhaa
namespace Go.Proofs.Ytdhhmphnmllbhaa
open Go.RowKit Go.PM

set_option maxRecDepth 100000 in
set_option maxHeartbeats 1000000 in
/-- two moves as values are compared text by text -/
theorem eq_mv (a b c d : ByteArray) (W : World) : (Op.equalIn 10000 37 (.agg #[.string a, .string b]) (.agg #[.string c, .string d])).run Try.prog W = .ok (mvEq a b c d) W := by
  have hs : Try.prog.stoodInHeld 37 = false := by kernel_rfl
  have e1 : (a == c) = decide (a = c) := beq_ba _ _
  have e2 : (b == d) = decide (b = d) := beq_ba _ _
  have q1 := eq_str 9998 a c
  have q2 := eq_str 9998 b d
  rw [Op.equalIn]
  generalize hE : Op.equalIn 9999 = E at *
  simp only [mvEq]
  rw [e1] at q1
  rw [e2] at q2
  clear e1 e2 hE
  by_cases h1 : a = c
  · by_cases h2 : b = d
    · subst h1; subst h2
      simp at q1 q2
      simp [go_sem, hs, q1, q2]
    · subst h1
      simp [h2] at q1 q2
      simp [go_sem, hs, q1, q2, h2]
  · simp [h1] at q1
    simp [go_sem, hs, q1, h1]

set_option maxRecDepth 100000 in
set_option maxHeartbeats 1600000 in
theorem pmSame_c (xs ys : List Mv) (v u : Value) (w : World) (hx : RdM w v xs) (hy : RdM w u ys) :
    Calls Try.prog 18 #[v, u] w fun e w' => e = .returned (.bool (decide (xs = ys))) ∧ Below w.heap.size w w' := by
  obtain ⟨A, cap, rfl, hn, hc, hcell⟩ := hx.open
  obtain ⟨A', cap', rfl, hn', hc', hcell'⟩ := hy.open
  clear hx hy
  rcases Nat.lt_or_ge ys.length xs.length with hle | hle
  · have hm : min (xs.length : Int) (ys.length : Int) = ys.length := by omega
    have HLE := Lib.hid hle
    clear hle
    go_enter Try.func18, Try.ntmps18
    go_wp2
    go_loopw [11] (fun i wr => ∃ (k : Nat), k ≤ ys.length ∧ i = .int .i64 k ∧ Hid (xs.take k = ys.take k) ∧ Below w.heap.size w wr) (fun i _ => ys.length - (intOf i).toNat)
    case atStart => exact ⟨0, by omega, rfl, by show _ = _; simp, Below.refl _ _⟩
    case round =>
      obtain ⟨k, hk, rfl, ht, hb⟩ := hrel
      by_cases hlt : k < ys.length
      · have hlt1 : k < xs.length := by have := HLE.out; omega
        have hlt2 : k < ys.length := by have := HLE.out; omega
        obtain ⟨b, off, rfl, hbl, hc1, hc2⟩ := hcell k hlt1
        obtain ⟨b', off', rfl, hbl', hc1', hc2'⟩ := hcell' k hlt2
        have hd1 := (hb.cell (p := ⟨b, off + k * 2, none⟩) hbl).trans hc1
        have hd2 := (hb.cell (p := ⟨b, off + k * 2 + 1, none⟩) hbl).trans hc2
        have hd3 := (hb.cell (p := ⟨b', off' + k * 2, none⟩) hbl').trans hc1'
        have hd4 := (hb.cell (p := ⟨b', off' + k * 2 + 1, none⟩) hbl').trans hc2'
        clear hc1 hc2 hcell hc1' hc2' hcell'
        have i1 : (k : Int) < (ys.length : Int) := by omega
        go_wp2
        have hx1 : ∀ x : Ext w.heap.size wr, x.val.cell? ⟨b, off + k * 2, none⟩ = some (.string xs[k].1) := fun x => (x.property.cell (p := ⟨b, _, none⟩) hbl).trans hd1
        have hx2 : ∀ x : Ext w.heap.size wr, x.val.cell? ⟨b, off + k * 2 + 1, none⟩ = some (.string xs[k].2) := fun x => (x.property.cell (p := ⟨b, _, none⟩) hbl).trans hd2
        have hx3 : ∀ x : Ext w.heap.size wr, x.val.cell? ⟨b', off' + k * 2, none⟩ = some (.string ys[k].1) := fun x => (x.property.cell (p := ⟨b', _, none⟩) hbl').trans hd3
        have hx4 : ∀ x : Ext w.heap.size wr, x.val.cell? ⟨b', off' + k * 2 + 1, none⟩ = some (.string ys[k].2) := fun x => (x.property.cell (p := ⟨b', _, none⟩) hbl').trans hd4
        clear hd1 hd2 hd3 hd4
        have i0 : (0 : Int) ≤ (k : Int) := by omega
        have i2 : (k : Int) < xs.length := by omega
        have i3 : (k : Int) < ys.length := by omega
        have hE := fun W => eq_mv xs[k].1 xs[k].2 ys[k].1 ys[k].2 W
        refine wp_region_ext w.heap.size (by kernel_rfl) (by kernel_rfl) ?_
        repeat (go_big_quiet_step (fail))
        refine wpQuiet_nil ?_
        intro w2 hw'
        obtain ⟨xw, hxw⟩ := hw'
        have hb2 := xw.property
        rw [← hxw] at hb2
        clear hxw xw
        clear hx1 hx2 hx3 hx4 hE
        go_wp2
        · have h : (!mvEq xs[k].1 xs[k].2 ys[k].1 ys[k].2) = true := by assumption
          go_ret
          refine ⟨?_, hb.trans hb2⟩
          have : ¬ xs = ys := by
            intro e; subst e; simp [mvEq] at h
          simp [this]
        · have h : (!mvEq xs[k].1 xs[k].2 ys[k].1 ys[k].2) = false := by assumption
          go_roundw
          case rel =>
            refine ⟨k + 1, by omega, by go_num, ?_, hb.trans hb2⟩
            show _ = _
            simp [mvEq] at h
            rw [take_snoc xs k hlt1, take_snoc ys k hlt2, ht.out, Prod.ext h.1 h.2]
          case measure => simp [intOf]; omega
      · have hk' : k = ys.length := by omega
        have h2 := ht.out
        have h3 := HLE.out
        rw [hk'] at h2
        have HD : Hid (((xs.length : Int) == (ys.length : Int)) = decide (xs = ys)) := by
          show _ = _
          by_cases he : xs.length = ys.length
          · rw [List.take_of_length_le (by omega), List.take_of_length_le (by omega)] at h2
            rw [h2]; simp
          · have h4 : ¬ xs = ys := fun e => he (by rw [e])
            have h5 : ¬ ((xs.length : Int) = (ys.length : Int)) := by omega
            rw [decide_eq_false h4]
            simpa using h5
        clear h2 h3 ht
        go_wp2
        go_ret
        exact ⟨by rw [← HD.out]; rfl, hb⟩
  · have hm : min (xs.length : Int) (ys.length : Int) = xs.length := by omega
    have HLE := Lib.hid hle
    clear hle
    go_enter Try.func18, Try.ntmps18
    go_wp2
    go_loopw [11] (fun i wr => ∃ (k : Nat), k ≤ xs.length ∧ i = .int .i64 k ∧ Hid (xs.take k = ys.take k) ∧ Below w.heap.size w wr) (fun i _ => xs.length - (intOf i).toNat)
    case atStart => exact ⟨0, by omega, rfl, by show _ = _; simp, Below.refl _ _⟩
    case round =>
      obtain ⟨k, hk, rfl, ht, hb⟩ := hrel
      by_cases hlt : k < xs.length
      · have hlt1 : k < xs.length := by have := HLE.out; omega
        have hlt2 : k < ys.length := by have := HLE.out; omega
        obtain ⟨b, off, rfl, hbl, hc1, hc2⟩ := hcell k hlt1
        obtain ⟨b', off', rfl, hbl', hc1', hc2'⟩ := hcell' k hlt2
        have hd1 := (hb.cell (p := ⟨b, off + k * 2, none⟩) hbl).trans hc1
        have hd2 := (hb.cell (p := ⟨b, off + k * 2 + 1, none⟩) hbl).trans hc2
        have hd3 := (hb.cell (p := ⟨b', off' + k * 2, none⟩) hbl').trans hc1'
        have hd4 := (hb.cell (p := ⟨b', off' + k * 2 + 1, none⟩) hbl').trans hc2'
        clear hc1 hc2 hcell hc1' hc2' hcell'
        have i1 : (k : Int) < (xs.length : Int) := by omega
        go_wp2
        have hx1 : ∀ x : Ext w.heap.size wr, x.val.cell? ⟨b, off + k * 2, none⟩ = some (.string xs[k].1) := fun x => (x.property.cell (p := ⟨b, _, none⟩) hbl).trans hd1
        have hx2 : ∀ x : Ext w.heap.size wr, x.val.cell? ⟨b, off + k * 2 + 1, none⟩ = some (.string xs[k].2) := fun x => (x.property.cell (p := ⟨b, _, none⟩) hbl).trans hd2
        have hx3 : ∀ x : Ext w.heap.size wr, x.val.cell? ⟨b', off' + k * 2, none⟩ = some (.string ys[k].1) := fun x => (x.property.cell (p := ⟨b', _, none⟩) hbl').trans hd3
        have hx4 : ∀ x : Ext w.heap.size wr, x.val.cell? ⟨b', off' + k * 2 + 1, none⟩ = some (.string ys[k].2) := fun x => (x.property.cell (p := ⟨b', _, none⟩) hbl').trans hd4
        clear hd1 hd2 hd3 hd4
        have i0 : (0 : Int) ≤ (k : Int) := by omega
        have i2 : (k : Int) < xs.length := by omega
        have i3 : (k : Int) < ys.length := by omega
        have hE := fun W => eq_mv xs[k].1 xs[k].2 ys[k].1 ys[k].2 W
        refine wp_region_ext w.heap.size (by kernel_rfl) (by kernel_rfl) ?_
        repeat (go_big_quiet_step (fail))
        refine wpQuiet_nil ?_
        intro w2 hw'
        obtain ⟨xw, hxw⟩ := hw'
        have hb2 := xw.property
        rw [← hxw] at hb2
        clear hxw xw
        clear hx1 hx2 hx3 hx4 hE
        go_wp2
        · have h : (!mvEq xs[k].1 xs[k].2 ys[k].1 ys[k].2) = true := by assumption
          go_ret
          refine ⟨?_, hb.trans hb2⟩
          have : ¬ xs = ys := by
            intro e; subst e; simp [mvEq] at h
          simp [this]
        · have h : (!mvEq xs[k].1 xs[k].2 ys[k].1 ys[k].2) = false := by assumption
          go_roundw
          case rel =>
            refine ⟨k + 1, by omega, by go_num, ?_, hb.trans hb2⟩
            show _ = _
            simp [mvEq] at h
            rw [take_snoc xs k hlt1, take_snoc ys k hlt2, ht.out, Prod.ext h.1 h.2]
          case measure => simp [intOf]; omega
      · have hk' : k = xs.length := by omega
        have h2 := ht.out
        have h3 := HLE.out
        rw [hk'] at h2
        have HD : Hid (((xs.length : Int) == (ys.length : Int)) = decide (xs = ys)) := by
          show _ = _
          by_cases he : xs.length = ys.length
          · rw [List.take_of_length_le (by omega), List.take_of_length_le (by omega)] at h2
            rw [h2]; simp
          · have h4 : ¬ xs = ys := fun e => he (by rw [e])
            have h5 : ¬ ((xs.length : Int) = (ys.length : Int)) := by omega
            rw [decide_eq_false h4]
            simpa using h5
        clear h2 h3 ht
        go_wp2
        go_ret
        exact ⟨by rw [← HD.out]; rfl, hb⟩
end Go.Proofs.Ytdhhmphnmllbhaa
namespace Go.PM
open Go.RowKit
def idxI (xs : List Mv) (m : Mv) : Option Nat := xs.findIdx? fun x => mvEq m.1 m.2 x.1 x.2
def idxZ (xs : List Mv) (m : Mv) : Int := match idxI xs m with
  | some i => (i : Int)
  | none => -1
theorem mvEq_iff {a b c d : ByteArray} : mvEq a b c d = true ↔ a = c ∧ b = d := by unfold mvEq; exact decide_eq_true_iff
theorem idxZ_at {xs : List Mv} {m : Mv} {k : Nat} (hk : k < xs.length) (h : ∀ j (hj : j < k), mvEq m.1 m.2 (xs[j]'(by omega)).1 (xs[j]'(by omega)).2 = false) (hf : mvEq m.1 m.2 xs[k].1 xs[k].2 = true) : idxZ xs m = (k : Int) := by
  have : idxI xs m = some k := by
    unfold idxI
    rw [List.findIdx?_eq_some_iff_getElem]
    exact ⟨hk, hf, fun j hj => by rw [h j hj]; decide⟩
  unfold idxZ; rw [this]
theorem idxZ_none {xs : List Mv} {m : Mv} (h : ∀ j (hj : j < xs.length), mvEq m.1 m.2 xs[j].1 xs[j].2 = false) : idxZ xs m = -1 := by
  have : idxI xs m = none := by
    unfold idxI
    rw [List.findIdx?_eq_none_iff]
    intro x hx
    obtain ⟨j, hj, rfl⟩ := List.getElem_of_mem hx
    exact h j hj
  unfold idxZ; rw [this]
theorem idxZ_lt (xs : List Mv) (m : Mv) : (idxZ xs m = -1 ∧ idxI xs m = none ∧ m ∉ xs) ∨ ∃ (i : Nat) (hi : i < xs.length), idxZ xs m = i ∧ idxI xs m = some i ∧ xs[i] = m := by
  cases h : idxI xs m with
  | none =>
    left
    refine ⟨by unfold idxZ; rw [h], rfl, fun hm => ?_⟩
    unfold idxI at h
    have := List.findIdx?_eq_none_iff.1 h m hm
    simp [mvEq] at this
  | some i =>
    right
    unfold idxI at h
    obtain ⟨h1, h2, _⟩ := List.findIdx?_eq_some_iff_getElem.1 h
    have := mvEq_iff.1 h2
    exact ⟨i, h1, by unfold idxZ idxI; rw [h], rfl, Prod.ext this.1.symm this.2.symm⟩
def restB (xs : List Mv) (m : Mv) : Bool := mvalid xs && (idxI xs m).isSome && freeB xs m
def restM (xs : List Mv) (m : Mv) : List Mv := if restB xs m then redM m (xs.eraseIdx ((idxI xs m).getD 0)) else []
theorem restM_len (xs : List Mv) (m : Mv) : (restM xs m).length ≤ 9 := by
  unfold restM; split
  · next h =>
    unfold restB at h
    rw [Bool.and_eq_true, Bool.and_eq_true] at h
    have := MV_len (xs := xs) (by simpa [mvalid] using h.1.1)
    rw [redM_len]
    exact Nat.le_trans (List.length_eraseIdx_le ..) this
  · simp
theorem filter_erase {xs : List Mv} (hn : xs.Nodup) {i : Nat} (hi : i < xs.length) : xs.filter (fun x => !mvEq x.1 x.2 xs[i].1 xs[i].2) = xs.eraseIdx i := by
  induction xs generalizing i with
  | nil => simp at hi
  | cons x xs ih =>
    rw [List.nodup_cons] at hn
    cases i with
    | zero =>
      have h1 : (!mvEq x.1 x.2 x.1 x.2) = false := by simp [mvEq]
      simp only [List.getElem_cons_zero]
      rw [List.filter_cons, if_neg (by rw [h1]; decide), List.eraseIdx_zero, List.tail_cons, List.filter_eq_self]
      intro y hy
      have : ¬ (y.1 = x.1 ∧ y.2 = x.2) := fun e => hn.1 (by rw [← Prod.ext e.1 e.2]; exact hy)
      simp [mvEq, this]
    | succ i =>
      have hi' : i < xs.length := by simpa using hi
      have h1 : (!mvEq x.1 x.2 xs[i].1 xs[i].2) = true := by
        have : ¬ (x.1 = xs[i].1 ∧ x.2 = xs[i].2) := fun e => hn.1 (by rw [Prod.ext e.1 e.2]; exact List.getElem_mem hi')
        simp [mvEq, this]
      simp only [List.getElem_cons_succ]
      rw [List.filter_cons, if_pos h1, List.eraseIdx_cons_succ, ih hn.2 hi']
def outK (xs : List Mv) (m : Mv) (k : Nat) : List Mv := (xs.take k).filter fun x => !mvEq x.1 x.2 m.1 m.2
def hasK (xs : List Mv) (m : Mv) (k : Nat) : Bool := (xs.take k).any fun x => mvEq x.1 x.2 m.1 m.2
theorem outK_succ (xs : List Mv) (m : Mv) (k : Nat) (hk : k < xs.length) : outK xs m (k + 1) = if mvEq xs[k].1 xs[k].2 m.1 m.2 = true then outK xs m k else outK xs m k ++ [xs[k]] := by
  unfold outK
  rw [take_snoc xs k hk, List.filter_append]
  by_cases h : mvEq xs[k].1 xs[k].2 m.1 m.2 = true
  · rw [if_pos h]; simp [h]
  · rw [if_neg h]; simp [h]
theorem hasK_succ (xs : List Mv) (m : Mv) (k : Nat) (hk : k < xs.length) : hasK xs m (k + 1) = (hasK xs m k || mvEq xs[k].1 xs[k].2 m.1 m.2) := by
  unfold hasK
  rw [take_snoc xs k hk, List.any_append]; simp
theorem outK_le (xs : List Mv) (m : Mv) (k : Nat) : (outK xs m k).length ≤ k := by
  unfold outK
  refine Nat.le_trans (List.length_filter_le _ _) ?_
  rw [List.length_take]; omega
theorem hasK_iff (xs : List Mv) (m : Mv) : hasK xs m xs.length = (idxI xs m).isSome := by
  rw [Bool.eq_iff_iff]
  rcases idxZ_lt xs m with ⟨_, h2, h3⟩ | ⟨i, hi, _, h2, h3⟩
  · rw [h2]
    unfold hasK
    rw [List.take_length, List.any_eq_true]
    constructor
    · rintro ⟨x, hx, e⟩
      have := mvEq_iff.1 e
      exact absurd (by rw [← Prod.ext this.1 this.2]; exact hx) h3
    · intro h; cases h
  · rw [h2]
    unfold hasK
    rw [List.take_length, List.any_eq_true]
    exact ⟨fun _ => rfl, fun _ => ⟨m, by rw [← h3]; exact List.getElem_mem hi, by simp [mvEq]⟩⟩
theorem MV_nodup {xs : List Mv} (h : MV xs) : xs.Nodup := map_inj_nodup h.2
/-- what the specification asks, where moves are valid and the move is there -/
theorem rest_facts {xs : List Mv} {m : Mv} (h : MV xs) {i : Nat} (hi : i < xs.length) (hx : xs[i] = m) (hI : idxI xs m = some i) :
    outK xs m xs.length = xs.eraseIdx i ∧ restB xs m = (!(decide (m.1 = m.2)) && !readB (xs.eraseIdx i) m.1) ∧ (restB xs m = true → restM xs m = if isP m.2 = true then instM m.2 m.1 (xs.eraseIdx i) else xs.eraseIdx i) := by
  have e1 : outK xs m xs.length = xs.eraseIdx i := by
    unfold outK
    rw [List.take_length, ← filter_erase (MV_nodup h) hi, hx]
  have hm : mvalid xs = true := by simpa [mvalid] using h
  have e2 : restB xs m = (!(decide (m.1 = m.2)) && !readB (xs.eraseIdx i) m.1) := by
    unfold restB freeB readB
    rw [hm, hI]
    have h1 := rdN_erase xs i hi m.1
    rw [hx] at h1
    rw [h1]
    by_cases e : m.1 = m.2
    · rw [if_pos e.symm]; simp [e]
    · rw [if_neg (fun e' => e e'.symm)]
      by_cases e0 : rdN (xs.eraseIdx i) m.1 = 0 <;> simp [e, e0]
  refine ⟨e1, e2, fun hr => ?_⟩
  unfold restM
  rw [if_pos hr, hI]
  show redM m (xs.eraseIdx i) = _
  have hok := h.1 m (by rw [← hx]; exact List.getElem_mem hi)
  unfold mok isS at hok
  rw [Bool.and_eq_true, Bool.or_eq_true] at hok
  unfold redM
  rcases hok.2 with h1 | h1
  · rw [if_neg (by rw [(isP_cases h1).1]; decide), if_pos h1]
  · rw [if_pos h1, if_neg (by rw [(isD_cases h1).1]; decide)]
end Go.PM
namespace Go.Proofs.Ytdhhmphnmllbhaa
open Go.RowKit Go.PM
attribute [local go_sem] Oper.semAt_some

set_option maxRecDepth 100000 in
set_option maxHeartbeats 1600000 in
theorem index_c (xs : List Mv) (v : Value) (m : Mv) (w : World) (hx : RdM w v xs) (hn' : xs.length ≤ 1048576) :
    Calls Try.prog 56 #[v, .agg #[.string m.1, .string m.2]] w fun e w' => e = .returned (.int .i64 (idxZ xs m)) ∧ Below w.heap.size w w' := by
  obtain ⟨A, cap, rfl, hn, hc, hcell⟩ := hx.open
  have HZ := Lib.hid (idxZ_none (xs := xs) (m := m))
  have HK := Lib.hid (fun k hk h => idxZ_at (xs := xs) (m := m) (k := k) hk h)
  have hA0 := At.new w 37 #[.string m.1, .string m.2]
  have hB0 : Below w.heap.size w (w.alloc (.cells #[.string m.1, .string m.2] 37)) := (Below.refl _ _).alloc (Nat.le_refl _) _
  clear hx
  go_enter Try.func56, Try.ntmps56
  go_wp2
  go_loopw [5, 8] (fun _ i wr => ∃ (k : Nat), k ≤ xs.length ∧ i = .int .i64 k ∧ Below w.heap.size w wr ∧ At wr w.heap.size 37 #[.string m.1, .string m.2] ∧ Hid (∀ j (hj : j < k) (hj2 : j < xs.length), mvEq m.1 m.2 xs[j].1 xs[j].2 = false)) (fun _ i _ => xs.length - (RowKit.intOf i).toNat)
  case atStart => exact ⟨0, by omega, rfl, hB0, hA0, fun j hj => by omega⟩
  case round =>
    obtain ⟨k, hk, rfl, hb, hA, hm⟩ := hrel
    have hbs := hb.size
    have hlA := hA.lt
    clear hA0 hB0
    by_cases hlt : k < xs.length
    · obtain ⟨b, off, rfl, hbl, hc1, hc2⟩ := hcell k hlt
      have hd1 := (hb.cell (p := ⟨b, off + k * 2, none⟩) hbl).trans hc1
      have hd2 := (hb.cell (p := ⟨b, off + k * 2 + 1, none⟩) hbl).trans hc2
      have hblr : b < wr.heap.size := by omega
      have HKK := Lib.hid (fun h => HK.out k hlt h)
      have HNX : Hid (mvEq m.1 m.2 xs[k].1 xs[k].2 = false → ∀ j (hj : j < k + 1) (hj2 : j < xs.length), mvEq m.1 m.2 xs[j].1 xs[j].2 = false) := fun h j hj hj2 => by
        by_cases e : j = k
        · subst e; exact h
        · exact hm.out j (by omega) hj2
      have hE := fun W => eq_mv m.1 m.2 xs[k].1 xs[k].2 W
      clear hc1 hc2 hcell
      generalize mvEq m.1 m.2 xs[k].1 xs[k].2 = fb at *
      generalize xs[k].1 = x1 at *
      generalize xs[k].2 = x2 at *
      have f1 : ∀ x : Ext wr.heap.size wr, x.val.cell? ⟨b, off + k * 2, none⟩ = some (.string x1) := fun x => (x.property.cell (p := ⟨b, _, none⟩) hblr).trans hd1
      have f2 : ∀ x : Ext wr.heap.size wr, x.val.cell? ⟨b, off + k * 2 + 1, none⟩ = some (.string x2) := fun x => (x.property.cell (p := ⟨b, _, none⟩) hblr).trans hd2
      have f3 : ∀ x : Ext wr.heap.size wr, x.val.cell? ⟨w.heap.size, 0, none⟩ = some (.string m.1) := fun x => (x.property.cell (p := ⟨w.heap.size, 0, none⟩) hlA).trans (hA.cell 0)
      have f4 : ∀ x : Ext wr.heap.size wr, x.val.cell? ⟨w.heap.size, 1, none⟩ = some (.string m.2) := fun x => (x.property.cell (p := ⟨w.heap.size, 1, none⟩) hlA).trans (hA.cell 1)
      have i0 : (0 : Int) ≤ (k : Int) := by omega
      have i1 : (k : Int) < (xs.length : Int) := by omega
      go_wp2
      refine wp_region_ext wr.heap.size (by kernel_rfl) (by kernel_rfl) ?_
      repeat (go_big_quiet_step (fail))
      refine wpQuiet_nil ?_
      intro w2 hw'
      obtain ⟨xw, hxw⟩ := hw'
      have hb2 := xw.property
      rw [← hxw] at hb2
      clear hxw xw f1 f2 f3 f4 hE hd1 hd2
      have hb3 := hb.trans (hb2.mono hbs)
      have hA3 := hA.keep hb2
      clear hb2 hA
      cases fb with
      | true =>
        go_wp2
        go_ret
        exact ⟨by rw [HKK.out (fun j hj => hm.out j hj (by omega)) (by first | trivial | rfl)]; rfl, hb3⟩
      | false =>
        go_wp2
        go_roundw
        case rel => exact ⟨k + 1, by omega, by go_num, hb3, hA3, HNX.out (by first | trivial | rfl)⟩
        case measure => simp [RowKit.intOf]; omega
    · have hz := HZ.out fun j hj => hm.out j (by omega) hj
      have HZZ := Lib.hid hz
      clear hz
      go_wp2
      go_ret
      exact ⟨by rw [HZZ.out]; rfl, hb⟩
set_option maxRecDepth 100000 in
set_option maxHeartbeats 3200000 in
theorem imRestBehind_c (xs : List Mv) (v : Value) (m : Mv) (w : World) (hx : RdM w v xs) (hn' : xs.length ≤ 1048576) :
    Calls Try.prog 23 #[v, .agg #[.string m.1, .string m.2]] w fun e w' => ∃ v', e = .returned (.tuple #[v', .bool (restB xs m)]) ∧ w'.ownsRow w.heap.size 37 2 v' (restM xs m).length (mcells (restM xs m)) ∧ Below w.heap.size w w' := by
  have HRM : Hid (restM xs m = if restB xs m then redM m (xs.eraseIdx ((idxI xs m).getD 0)) else []) := rfl
  have HRB : Hid (restB xs m = (mvalid xs && (idxI xs m).isSome && freeB xs m)) := rfl
  have hA0 := At.new w 37 #[.string m.1, .string m.2]
  have hB0 : Below w.heap.size w (w.alloc (.cells #[.string m.1, .string m.2] 37)) := (Below.refl _ _).alloc (Nat.le_refl _) _
  have q1 : (w.alloc (.cells #[.string m.1, .string m.2] 37)).cell? ⟨w.heap.size, 0, none⟩ = some (.string m.1) := hA0.cell 0
  have q2 : (w.alloc (.cells #[.string m.1, .string m.2] 37)).cell? ⟨w.heap.size, 1, none⟩ = some (.string m.2) := hA0.cell 1
  have HIX := Lib.hid (index_c xs v m _ (hx.below hB0) hn')
  have HX := Lib.hid (fun W (hW : Below w.heap.size w W) => hx.below hW)
  have HMV := Lib.hid (fun W (hW : RdM W v xs) => imMovesValid_c xs v W hW)
  have HCR := Lib.hid (fun W (hW : RdM W v xs) => countReaders_c xs v W hW hn')
  have HWO := Lib.hid (fun i hi W (hW : RdM W v xs) => without_c xs v i hi W hW hn')
  have HAH := Lib.hid (fun hp W => ahead_c xs m hp W hn')
  have HRE := Lib.hid (fun ys u W (hW : RdM W u ys) hl => redirected_c ys u m W hW hl)
  have HPP : Hid (∀ i (hi : i < xs.length), mvalid xs = true → xs[i] = m → isP m.1 = true) := fun i hi h e => by
    have h1 : MV xs := by simpa [mvalid] using h
    have := h1.1 m (by rw [← e]; exact List.getElem_mem hi)
    unfold mok at this; rw [Bool.and_eq_true] at this; exact this.1
  have hz := idxZ_lt xs m
  obtain ⟨A, cap, rfl, _⟩ := hx
  generalize cntC (cntF xs) = G at *
  go_enter Try.func23, Try.ntmps23
  go_wp2_with (go_at_call 56; refine HIX.out.mono ?_; rintro e w1 ⟨rfl, hb1⟩; refine held ?_)
  unfold Held
  have hB1 := hB0.trans (hb1.mono (by simp))
  have hA1 := hA0.keep hb1
  have hs1 := hB1.size
  have hl1 := hA1.lt
  have hR1 := HX.out _ hB1
  have f1 : ∀ x : Ext w1.heap.size w1, x.val.cell? ⟨w.heap.size, 0, none⟩ = some (.string m.1) := fun x => (x.property.cell (p := ⟨w.heap.size, 0, none⟩) hl1).trans (hA1.cell 0)
  have f2 : ∀ x : Ext w1.heap.size w1, x.val.cell? ⟨w.heap.size, 1, none⟩ = some (.string m.2) := fun x => (x.property.cell (p := ⟨w.heap.size, 1, none⟩) hl1).trans (hA1.cell 1)
  have gMV := fun x : Ext w1.heap.size w1 => HMV.out x.val (hR1.below x.property)
  have gCR := fun x : Ext w1.heap.size w1 => HCR.out x.val (hR1.below x.property)
  clear hb1 hA0 hB0 q1 q2 HIX HMV HCR
  rcases Bool.eq_false_or_eq_true (mvalid xs) with hm | hm
  · rcases hz with ⟨hz1, hz2, _⟩ | ⟨i, hi, hz1, hz2, hz3⟩
    · have hF : Hid (restB xs m = false) := by show _ = _; rw [HRB.out, hz2]; simp
      have gAH : True := trivial
      rw [hz1]
      rw [hm] at gMV
      clear hz2
      go_wp2
      refine wp_region_ext w1.heap.size (by kernel_rfl) (by kernel_rfl) ?_
      repeat (first | go_big_quiet_step (first | (go_at_call 28; exact ext_call _ (Nat.le_refl _) (gMV _)) | (go_at_call 57; exact ext_call _ (Nat.le_refl _) (gCR _)) | (go_at_call 58; exact ext_call _ (Nat.le_refl _) (gAH _))) | (refine wpQuiet_skip rfl ?_; simp only [Act.put, List.setIfInBounds_toArray, List.set_cons_succ, List.set_cons_zero]))
      refine wpQuiet_nil ?_
      intro w2 hw'
      obtain ⟨xw, hxw⟩ := hw'
      have hb2 := xw.property
      rw [← hxw] at hb2
      clear hxw xw f1 f2 gMV gCR gAH
      have hB2 := hB1.trans (hb2.mono hs1)
      clear hb2
      go_wp2
      go_ret2
      exact ⟨_, by rw [hF.out]; rfl, by rw [HRM.out, hF.out]; exact ⟨rfl, .inl ⟨rfl, rfl⟩⟩, hB2⟩
    · have hp := HPP.out i hi hm hz3
      have gAH := fun x : Ext w1.heap.size w1 => HAH.out hp x.val
      have hWOI := Lib.hid (fun W hW => HWO.out i hi W hW)
      have i2 : ¬ (i : Int) < 0 := by omega
      have i3 : decide ((i : Int) < 0) = false := decide_eq_false i2
      rw [hz1]
      rw [hm] at gMV
      rcases Bool.eq_false_or_eq_true (freeB xs m) with hf | hf
      · have hT : Hid (restB xs m = true) := by show _ = _; rw [HRB.out, hm, hz2, hf]; rfl
        have hRL : Hid (redM m (xs.eraseIdx i) = restM xs m) := by show _ = _; rw [HRM.out, hT.out, if_pos rfl, hz2]; rfl
        have hel : (xs.eraseIdx i).length ≤ 1048576 := Nat.le_trans (List.length_eraseIdx_le ..) hn'
        rw [hf] at gAH
        clear hz1 hz2 hz3 hp hf
        go_wp2
        refine wp_region_ext w1.heap.size (by kernel_rfl) (by kernel_rfl) ?_
        repeat (first | go_big_quiet_step (first | (go_at_call 28; exact ext_call _ (Nat.le_refl _) (gMV _)) | (go_at_call 57; exact ext_call _ (Nat.le_refl _) (gCR _)) | (go_at_call 58; exact ext_call _ (Nat.le_refl _) (gAH _))) | (refine wpQuiet_skip rfl ?_; simp only [Act.put, List.setIfInBounds_toArray, List.set_cons_succ, List.set_cons_zero]))
        refine wpQuiet_nil ?_
        intro w2 hw'
        obtain ⟨xw, hxw⟩ := hw'
        have hb2 := xw.property
        rw [← hxw] at hb2
        clear hxw xw f1 f2 gMV gCR gAH
        have hB2 := hB1.trans (hb2.mono hs1)
        have hA2 := hA1.keep hb2
        have hs2 := hB2.size
        have hl2 := hA2.lt
        have hwo := Lib.hid (hWOI.out w2.drew (HX.out _ hB2.drew))
        have hRE2 := Lib.hid (fun u W hW => HRE.out (xs.eraseIdx i) u W hW hel)
        generalize xs.eraseIdx i = er at *
        have r1 : w2.drew.cell? ⟨w.heap.size, 0, none⟩ = some (.string m.1) := hA2.cell 0
        have r2 : w2.drew.cell? ⟨w.heap.size, 1, none⟩ = some (.string m.2) := hA2.cell 1
        clear hb2
        go_wp2
        go_region_with (first
          | (go_at_call 60; refine hwo.out.mono ?_; rintro e w3 ⟨v3, rfl, ho3, hb3⟩; have s1 := (hb3.cell (p := ⟨w.heap.size, 0, none⟩) hl2).trans r1; have s2 := (hb3.cell (p := ⟨w.heap.size, 1, none⟩) hl2).trans r2)
          | (go_at_call 59; refine (hRE2.out _ _ (Rd.of_own ho3)).mono ?_; rintro e w4 ⟨v4, rfl, ho4, hb4⟩))
        all_goals
          have hB3 : Below w.heap.size w w3 := hB2.drew.trans (hb3.mono hs2)
          have hB4 := hB3.trans (hb4.mono hB3.size)
          have ho5 := own_more ho4 hB3.size
          rw [hRL.out] at ho5
          have HO := Lib.hid ho5
          clear ho3 ho4 hb3 hb4 s1 s2 r1 r2 ho5
          go_wp2
          go_ret2
          exact ⟨_, by rw [hT.out]; rfl, HO.out, hB4⟩
      · have hF : Hid (restB xs m = false) := by show _ = _; rw [HRB.out, hf]; simp
        rw [hf] at gAH
        clear hz1 hz2 hz3 hp hf
        go_wp2
        refine wp_region_ext w1.heap.size (by kernel_rfl) (by kernel_rfl) ?_
        repeat (first | go_big_quiet_step (first | (go_at_call 28; exact ext_call _ (Nat.le_refl _) (gMV _)) | (go_at_call 57; exact ext_call _ (Nat.le_refl _) (gCR _)) | (go_at_call 58; exact ext_call _ (Nat.le_refl _) (gAH _))) | (refine wpQuiet_skip rfl ?_; simp only [Act.put, List.setIfInBounds_toArray, List.set_cons_succ, List.set_cons_zero]))
        refine wpQuiet_nil ?_
        intro w2 hw'
        obtain ⟨xw, hxw⟩ := hw'
        have hb2 := xw.property
        rw [← hxw] at hb2
        clear hxw xw f1 f2 gMV gCR gAH
        have hB2 := hB1.trans (hb2.mono hs1)
        clear hb2
        go_wp2
        go_ret2
        exact ⟨_, by rw [hF.out]; rfl, by rw [HRM.out, hF.out]; exact ⟨rfl, .inl ⟨rfl, rfl⟩⟩, hB2⟩
  · have hF : Hid (restB xs m = false) := by show _ = _; rw [HRB.out, hm]; rfl
    have gAH : True := trivial
    rw [hm] at gMV
    generalize idxZ xs m = iz at *
    go_wp2
    refine wp_region_ext w1.heap.size (by kernel_rfl) (by kernel_rfl) ?_
    repeat (first | go_big_quiet_step (first | (go_at_call 28; exact ext_call _ (Nat.le_refl _) (gMV _)) | (go_at_call 57; exact ext_call _ (Nat.le_refl _) (gCR _)) | (go_at_call 58; exact ext_call _ (Nat.le_refl _) (gAH _))) | (refine wpQuiet_skip rfl ?_; simp only [Act.put, List.setIfInBounds_toArray, List.set_cons_succ, List.set_cons_zero]))
    refine wpQuiet_nil ?_
    intro w2 hw'
    obtain ⟨xw, hxw⟩ := hw'
    have hb2 := xw.property
    rw [← hxw] at hb2
    clear hxw xw f1 f2 gMV gCR gAH
    have hB2 := hB1.trans (hb2.mono hs1)
    clear hb2
    go_wp2
    go_ret2
    exact ⟨_, by rw [hF.out]; rfl, by rw [HRM.out, hF.out]; exact ⟨rfl, .inl ⟨rfl, rfl⟩⟩, hB2⟩
set_option maxRecDepth 100000 in
set_option maxHeartbeats 3200000 in
theorem spRestBehind_c (xs : List Mv) (v : Value) (m : Mv) (w : World) (hx : RdM w v xs) (hz : ∀ m ∈ xs, m.1.size ≤ 9223372036854775807 ∧ m.2.size ≤ 9223372036854775807) (hn' : xs.length ≤ 1048576) :
    Calls Try.prog 24 #[v, .agg #[.string m.1, .string m.2]] w fun e w' => ∃ v', e = .returned (.tuple #[v', .bool (restB xs m)]) ∧ w'.ownsRow w.heap.size 37 2 v' (restM xs m).length (mcells (restM xs m)) ∧ Below w.heap.size w w' := by
  have HX := Lib.hid (fun W (hW : Below w.heap.size w W) => spMovesValid_c xs v W (hx.below hW) hz hn')
  have HRM : Hid (restB xs m = false → restM xs m = []) := fun h => by unfold restM; rw [h]; rfl
  have HRB : Hid (restB xs m = (mvalid xs && (idxI xs m).isSome && freeB xs m)) := rfl
  have HHK := Lib.hid (hasK_iff xs m)
  have HFA : Hid (MV xs → (idxI xs m).isSome = true → ∃ i, i < xs.length ∧ outK xs m xs.length = xs.eraseIdx i ∧ restB xs m = (!(decide (m.1 = m.2)) && !readB (xs.eraseIdx i) m.1) ∧ (restB xs m = true → restM xs m = if isP m.2 = true then instM m.2 m.1 (xs.eraseIdx i) else xs.eraseIdx i)) := fun h hs => by
    rcases idxZ_lt xs m with ⟨_, h2, _⟩ | ⟨i, hi, _, h2, h3⟩
    · rw [h2] at hs; cases hs
    · exact ⟨i, hi, rest_facts h hi h3 h2⟩
  have HRR := Lib.hid (fun ys u a W h => l5Read_c ys u a W h)
  have HIN := Lib.hid (fun ys u a c W h hl => l5Instead_c ys u a c W h hl)
  have HEQ := fun (a b : ByteArray) W => eq_mv a b m.1 m.2 W
  obtain ⟨A, cap, rfl, hn, hc, hcell⟩ := hx.open
  have hA0 := At.new w 37 #[.string m.1, .string m.2]
  have hB0 : Below w.heap.size w ((w.alloc (.cells #[.string m.1, .string m.2] 37)).alloc (.cells #[] 37)) := ((Below.refl _ _).alloc (Nat.le_refl _) _).alloc (by simp) _
  have hE0 := World.ownsRow_lit (e := 37) (base := w.heap.size + 1) (size := 2) (w.alloc (.cells #[.string m.1, .string m.2] 37)) #[] 0 (by simp) (Nat.zero_le _) rfl
  rw [World.size_alloc] at hE0
  have hA1 := hA0.alloc (.cells #[] 37)
  clear hx hz hA0
  go_enter Try.func24, Try.ntmps24
  go_wp2
  go_loopw [6, 7, 9, 13] (fun o t _ i wr => ∃ (k : Nat), k ≤ xs.length ∧ i = .int .i64 k ∧ t = .bool (hasK xs m k) ∧ wr.ownsRow (w.heap.size + 1) 37 2 o (outK xs m k).length (mcells (outK xs m k)) ∧ At wr w.heap.size 37 #[.string m.1, .string m.2] ∧ Below w.heap.size w wr) (fun _ _ _ i _ => xs.length - (intOf i).toNat)
  case atStart => exact ⟨0, by omega, rfl, rfl, hE0, hA1, hB0⟩
  case round =>
    obtain ⟨k, hk, rfl, rfl, ho, hA, hb⟩ := hrel
    have hbs := hb.size
    have hlA := hA.lt
    clear hE0 hA1 hB0
    by_cases hlt : k < xs.length
    · obtain ⟨b, off, rfl, hbl, hc1, hc2⟩ := hcell k hlt
      have hd1 := (hb.cell (p := ⟨b, off + k * 2, none⟩) hbl).trans hc1
      have hd2 := (hb.cell (p := ⟨b, off + k * 2 + 1, none⟩) hbl).trans hc2
      have hst := outK_succ xs m k hlt
      have hsh := hasK_succ xs m k hlt
      have hle := outK_le xs m k
      rw [show xs[k] = (xs[k].1, xs[k].2) from rfl] at hst
      have hE := HEQ xs[k].1 xs[k].2
      clear hc1 hc2 hcell
      have m1 : wr.cell? ⟨w.heap.size, 0, none⟩ = some (.string m.1) := hA.cell 0
      have m2 : wr.cell? ⟨w.heap.size, 1, none⟩ = some (.string m.2) := hA.cell 1
      generalize mvEq xs[k].1 xs[k].2 m.1 m.2 = fb at *
      generalize xs[k].1 = x1 at *
      generalize xs[k].2 = x2 at *
      generalize hasK xs m k = hk0 at *
      generalize outK xs m k = ys at *
      have HST := Lib.hid hst
      have HSH := Lib.hid hsh
      clear hst hsh HEQ
      cases fb with
      | true =>
        have hB2 := hb.alloc hbs (.cells #[.string x1, .string x2] 37)
        have ho2 := own_keep ho ((Below.refl _ _).alloc (Nat.le_refl _) (.cells #[.string x1, .string x2] 37))
        have hA2 := hA.alloc (.cells #[.string x1, .string x2] 37)
        have hs1 : outK xs m (k + 1) = ys := HST.out
        have hs2 : hasK xs m (k + 1) = true := by rw [HSH.out, Bool.or_true]
        rw [← hs1] at ho2
        have HS2 := Lib.hid hs2
        clear hs1 hs2 ho hA hb
        go_wp2
        go_roundw
        case rel => exact ⟨k + 1, by omega, by go_num, by rw [HS2.out], ho2, hA2, hB2⟩
        case measure => simp [intOf]; omega
      | false =>
        have hs1 : outK xs m (k + 1) = ys ++ [(x1, x2)] := HST.out
        have hs2 : hasK xs m (k + 1) = hk0 := by rw [HSH.out, Bool.or_false]
        have HS2 := Lib.hid hs2
        have HS1 := Lib.hid hs1
        have hnw := two_new (wr.alloc (.cells #[.string x1, .string x2] 37)) (.string x1) (.string x2) 37
        rw [World.size_alloc] at hnw
        clear hs1 hs2
        go_wp2_with (at_builtin; refine held ?_)
        unfold Held
        refine app_mv rfl (.tmp 20) (.tmp 22) rfl (w.heap.size + 1) u6 ys (x1, x2) ⟨wr.heap.size + 1, 0, none⟩ 1 (by rfl) (by rfl) (own_keep (own_keep ho ((Below.refl _ _).alloc (Nat.le_refl _) _)) ((Below.refl _ _).alloc (Nat.le_refl _) _)) hnw (by omega) (by simp; omega) ?_
        intro v' w3 hown3 hgrow3
        have hge := own_block_ge ho
        have hbx : Below w.heap.size w ((wr.alloc (.cells #[.string x1, .string x2] 37)).alloc (.cells #[.string x1, .string x2] 37)) := by (repeat' (first | (with_reducible exact Below.refl _ _) | (with_reducible assumption) | (with_reducible refine Below.alloc ?_ ?_ _) | (with_reducible refine Below.drew ?_) | (with_reducible refine Below.setCell ?_ ?_ _) | (with_reducible exact Nat.le_refl _) | omega | ((repeat (first | rewrite [World.size_alloc] | rewrite [World.size_setCell] | rewrite [World.size_drew])); omega) | (simp; omega) | (simp; done)))
        have hb4 := hbx.trans (below_grown hgrow3 (B := w.heap.size) (by simp; omega) (fun g e => by have := hge g e; omega))
        have hA4 : At w3 w.heap.size 37 #[.string m.1, .string m.2] := ((hA.alloc (.cells #[.string x1, .string x2] 37)).alloc (.cells #[.string x1, .string x2] 37)).grown hgrow3 (fun e => by have := hge _ e.symm; omega)
        rw [← HS1.out] at hown3
        clear hnw hgrow3 hge hbx ho hA hb m1 m2 hd1 hd2 hE
        go_wp2
        go_roundw
        case rel => exact ⟨k + 1, by omega, by go_num, by rw [HS2.out], hown3, hA4, hb4⟩
        case measure => simp [intOf]; omega
    · have hk' : k = xs.length := by omega
      subst hk'
      rw [HHK.out]
      have hmv := HX.out _ hb
      have m1 : wr.cell? ⟨w.heap.size, 0, none⟩ = some (.string m.1) := hA.cell 0
      have m2 : wr.cell? ⟨w.heap.size, 1, none⟩ = some (.string m.2) := hA.cell 1
      have hle := outK_le xs m xs.length
      clear hcell HEQ
      rcases Bool.eq_false_or_eq_true (mvalid xs) with hm | hm
      · rcases Bool.eq_false_or_eq_true (idxI xs m).isSome with hi | hi
        · obtain ⟨i, hil, e1, e2, e3⟩ := HFA.out (by simpa [mvalid] using hm) hi
          have hle2 : (xs.eraseIdx i).length ≤ 1048575 := by rw [List.length_eraseIdx_of_lt hil]; omega
          rw [e1] at ho
          rw [hm] at hmv
          rw [hi]
          have E2 := Lib.hid e2
          have E3 := Lib.hid e3
          clear e1 e2 e3 hle
          generalize xs.eraseIdx i = er at *
          go_wp2_with (go_at_call 41; refine hmv.mono ?_; rintro e w2 ⟨rfl, hb2⟩; refine held ?_)
          unfold Held
          have hB2 := hb.trans (hb2.mono hbs)
          have hs2 := hB2.size
          have ho2 := own_keep ho hb2
          have hA2 := hA.keep hb2
          have k1 : w2.cell? ⟨w.heap.size, 0, none⟩ = some (.string m.1) := hA2.cell 0
          have k2 : w2.cell? ⟨w.heap.size, 1, none⟩ = some (.string m.2) := hA2.cell 1
          have hrd2 : RdM w2 u6 er := Rd.of_own ho2
          have hrr := HRR.out er u6 m.1 w2 hrd2
          clear hb2 hA m1 m2 hmv ho hb
          rcases Bool.eq_false_or_eq_true (m.1.toList == m.2.toList) with he | he
          · have he' := he
            rw [beq_str] at he'
            have hF : Hid (restB xs m = false) := by show _ = _; rw [E2.out, he']; rfl
            have hE := World.ownsRow_lit (e := 37) (base := w.heap.size) (size := 2) w2 #[] 0 hs2 (Nat.zero_le _) rfl
            have hB3 := hB2.alloc hs2 (.cells #[] 37)
            clear he' hrr hrd2 ho2 hA2
            go_wp2
            go_ret2
            exact ⟨_, by rw [hF.out]; rfl, by rw [HRM.out hF.out]; exact hE, hB3⟩
          · have he' := he
            rw [beq_str] at he'
            have hR : Hid (restB xs m = !readB er m.1) := by show _ = _; rw [E2.out, he']; rfl
            clear he'
            rcases Bool.eq_false_or_eq_true (readB er m.1) with hr | hr
            · have hF : Hid (restB xs m = false) := by show _ = _; rw [hR.out, hr]; rfl
              rw [hr] at hrr
              clear hrd2 ho2
              go_wp2_with (go_at_call 61; refine hrr.mono ?_; rintro e w3 ⟨rfl, hb3⟩; refine held ?_)
              unfold Held
              have hB3 := hB2.trans (hb3.mono hs2)
              have hs3 := hB3.size
              have hE := World.ownsRow_lit (e := 37) (base := w.heap.size) (size := 2) w3 #[] 0 hs3 (Nat.zero_le _) rfl
              have hB4 := hB3.alloc hs3 (.cells #[] 37)
              clear hb3 hrr hA2 k1 k2
              go_wp2
              go_ret2
              exact ⟨_, by rw [hF.out]; rfl, by rw [HRM.out hF.out]; exact hE, hB4⟩
            · have hT : Hid (restB xs m = true) := by show _ = _; rw [hR.out, hr]; rfl
              have hRL := Lib.hid (E3.out hT.out)
              rw [hr] at hrr
              go_wp2_with (go_at_call 61; refine hrr.mono ?_; rintro e w3 ⟨rfl, hb3⟩; refine held ?_)
              unfold Held
              have hB3 := hB2.trans (hb3.mono hs2)
              have hs3 := hB3.size
              have ho3 := own_keep ho2 hb3
              have hA3 := hA2.keep hb3
              have l1 : w3.cell? ⟨w.heap.size, 0, none⟩ = some (.string m.1) := hA3.cell 0
              have l2 : w3.cell? ⟨w.heap.size, 1, none⟩ = some (.string m.2) := hA3.cell 1
              have hrd3 : RdM w3 u6 er := Rd.of_own ho3
              have hin := HIN.out er u6 m.2 m.1 w3 hrd3 hle2
              clear hb3 hrr hA2 k1 k2 ho2 hrd2
              rcases Bool.eq_false_or_eq_true (isP m.2) with hp | hp
              · have hq := hRL.out
                rw [if_pos hp] at hq
                rw [← hq] at hin
                clear hq ho3
                go_wp2_with (first | (go_at_call 52; refine (l1Place_c _ _).mono ?_; rintro e w' ⟨rfl, rfl⟩) | (go_at_call 62; refine hin.mono ?_; rintro e w4 ⟨v4, rfl, ho4, hb4⟩; refine held ?_))
                unfold Held
                have hB4 := hB3.trans (hb4.mono hs3)
                have ho5 := own_more ho4 hs3
                clear ho4 hb4 hin hA3 l1 l2 hrd3
                go_wp2
                go_ret2
                exact ⟨_, by rw [hT.out]; rfl, ho5, hB4⟩
              · have hq := hRL.out
                rw [if_neg (by rw [hp]; decide)] at hq
                rw [← hq] at ho3
                have ho5 := own_more ho3 (show w.heap.size ≤ w.heap.size + 1 by omega)
                clear hq ho3 hin hA3 hrd3
                go_wp2_with (go_at_call 52; refine (l1Place_c _ _).mono ?_; rintro e w' ⟨rfl, rfl⟩)
                go_ret2
                exact ⟨_, by rw [hT.out]; rfl, ho5, hB3⟩
        · have hF : Hid (restB xs m = false) := by show _ = _; rw [HRB.out, hi]; simp
          rw [hm] at hmv
          rw [hi]
          go_wp2_with (go_at_call 41; refine hmv.mono ?_; rintro e w2 ⟨rfl, hb2⟩; refine held ?_)
          unfold Held
          have hB2 := hb.trans (hb2.mono hbs)
          have hs2 := hB2.size
          have hE := World.ownsRow_lit (e := 37) (base := w.heap.size) (size := 2) w2 #[] 0 hs2 (Nat.zero_le _) rfl
          have hB3 := hB2.alloc hs2 (.cells #[] 37)
          clear hb2 hA m1 m2 hmv ho hb
          go_wp2
          go_ret2
          exact ⟨_, by rw [hF.out]; rfl, by rw [HRM.out hF.out]; exact hE, hB3⟩
      · have hF : Hid (restB xs m = false) := by show _ = _; rw [HRB.out, hm]; rfl
        rw [hm] at hmv
        generalize (idxI xs m).isSome = his at *
        go_wp2_with (go_at_call 41; refine hmv.mono ?_; rintro e w2 ⟨rfl, hb2⟩; refine held ?_)
        unfold Held
        have hB2 := hb.trans (hb2.mono hbs)
        have hs2 := hB2.size
        have hE := World.ownsRow_lit (e := 37) (base := w.heap.size) (size := 2) w2 #[] 0 hs2 (Nat.zero_le _) rfl
        have hB3 := hB2.alloc hs2 (.cells #[] 37)
        clear hb2 hA m1 m2 hmv ho hb
        go_wp2
        go_ret2
        exact ⟨_, by rw [hF.out]; rfl, by rw [HRM.out hF.out]; exact hE, hB3⟩
end Go.Proofs.Ytdhhmphnmllbhaa
namespace Go.PM
def sameAt (xs ys : List Mv) (p : Nat) : Bool := decide (srcM xs (nm p) = srcM ys (nm p))
def sameM (xs ys : List Mv) : Bool := mvalid xs && mvalid ys && (List.range 9).all (sameAt xs ys)
theorem sameM_no {xs ys : List Mv} (k : Nat) (hk : k < 9) (h : sameAt xs ys k = false) : sameM xs ys = false := by
  have : (List.range 9).all (sameAt xs ys) = false := by
    rw [List.all_eq_false]
    exact ⟨k, by simpa using hk, by rw [h]; decide⟩
  rw [sameM, this, Bool.and_false]
theorem sameM_all {xs ys : List Mv} (h : ∀ p, p < 9 → sameAt xs ys p = true) : sameM xs ys = (mvalid xs && mvalid ys) := by
  have : (List.range 9).all (sameAt xs ys) = true := by
    rw [List.all_eq_true]
    intro p hp
    exact h p (by simpa using hp)
  rw [sameM, this, Bool.and_true]
end Go.PM
namespace Go.Proofs.Ytdhhmphnmllbhaa
open Go.RowKit Go.PM

set_option maxRecDepth 100000 in
set_option maxHeartbeats 2000000 in
theorem spSameMoves_c (xs ys : List Mv) (v u : Value) (w : World) (hx : RdM w v xs) (hy : RdM w u ys) (hz : ∀ m ∈ xs, m.1.size ≤ 9223372036854775807 ∧ m.2.size ≤ 9223372036854775807) (hn' : xs.length ≤ 1048576)
    (hzy : ∀ m ∈ ys, m.1.size ≤ 9223372036854775807 ∧ m.2.size ≤ 9223372036854775807) (hny : ys.length ≤ 1048576) :
    Calls Try.prog 20 #[v, u] w fun e w' => e = .returned (.bool (sameM xs ys)) ∧ Below w.heap.size w w' := by
  have HN : Hid (∀ q, q < 9 → (ByteArray.mk #[97, 98, 99, 100, 101, 102, 65, 66, 67]).extract q (q+1) = nm q) := by
    show ∀ q, _
    intro q hq
    match q, hq with
    | 0, _ | 1, _ | 2, _ | 3, _ | 4, _ | 5, _ | 6, _ | 7, _ | 8, _ => decide +kernel
  have HX := Lib.hid (fun W (hW : Below w.heap.size w W) => hx.below hW)
  have HY := Lib.hid (fun W (hW : Below w.heap.size w W) => hy.below hW)
  have HC := Lib.hid (fun W (hW : Below w.heap.size w W) q => l1Source_c xs v q W (hx.below hW))
  have HD := Lib.hid (fun W (hW : Below w.heap.size w W) q => l1Source_c ys u q W (hy.below hW))
  have HNO := Lib.hid (fun k hk => sameM_no (xs := xs) (ys := ys) k hk)
  have HALL := Lib.hid (fun h => sameM_all (xs := xs) (ys := ys) h)
  have HV := Lib.hid (fun W (hW : Below w.heap.size w W) => spMovesValid_c xs v W (hx.below hW) hz hn')
  have HU := Lib.hid (fun W (hW : Below w.heap.size w W) => spMovesValid_c ys u W (hy.below hW) hzy hny)
  go_enter Try.func20, Try.ntmps20
  go_wp2
  go_loopw [6] (fun i wr => ∃ (k : Nat), k ≤ 9 ∧ i = .int .i64 k ∧ Hid (∀ p, p < k → sameAt xs ys p = true) ∧ Below w.heap.size w wr) (fun i _ => 9 - (intOf i).toNat)
  case atStart => exact ⟨0, by omega, rfl, fun p hp => absurd hp (Nat.not_lt_zero p), Below.refl _ _⟩
  case round =>
    obtain ⟨k, hk, rfl, hm, hb⟩ := hrel
    have hbs := hb.size
    by_cases hlt : k < 9
    · have hex := HN.out k hlt
      have hC : ∀ x : Ext w.heap.size wr, Calls Try.prog 54 #[v, .string (nm k)] x.val fun e w' => e = .returned (.string (srcM xs (nm k))) ∧ Below x.val.heap.size x.val w' := fun x => HC.out x.val (hb.trans x.property) (nm k)
      have hD : ∀ x : Ext w.heap.size wr, Calls Try.prog 54 #[u, .string (nm k)] x.val fun e w' => e = .returned (.string (srcM ys (nm k))) ∧ Below x.val.heap.size x.val w' := fun x => HD.out x.val (hb.trans x.property) (nm k)
      have HS := Lib.hid (show sameAt xs ys k = decide (srcM xs (nm k) = srcM ys (nm k)) from rfl)
      have HNOk := Lib.hid (HNO.out k hlt)
      generalize srcM xs (nm k) = s1 at *
      generalize srcM ys (nm k) = s2 at *
      generalize nm k = q at *
      rcases Bool.eq_false_or_eq_true (s1.toList == s2.toList) with hd | hd
      · go_wp2
        refine wp_region_ext w.heap.size (by kernel_rfl) (by kernel_rfl) ?_
        repeat (go_big_quiet_step ((go_at_call 54; first | (with_reducible exact ext_call _ hbs (hC _)) | (with_reducible exact ext_call _ hbs (hD _)))))
        refine wpQuiet_nil ?_
        intro w2 hw'
        obtain ⟨xw, hxw⟩ := hw'
        have hb2 := xw.property
        rw [← hxw] at hb2
        clear hxw xw hC hD
        have hb3 : Below w.heap.size w w2 := hb.trans hb2
        go_wp2
        go_roundw
        case rel =>
          refine ⟨k + 1, by omega, by go_num, ?_, hb3⟩
          intro p hp
          by_cases hpk : p < k
          · exact hm.out p hpk
          · have : p = k := by omega
            subst this
            rw [HS.out, ← beq_str, hd]
        case measure => simp [intOf]; omega
      · go_wp2
        refine wp_region_ext w.heap.size (by kernel_rfl) (by kernel_rfl) ?_
        repeat (go_big_quiet_step ((go_at_call 54; first | (with_reducible exact ext_call _ hbs (hC _)) | (with_reducible exact ext_call _ hbs (hD _)))))
        refine wpQuiet_nil ?_
        intro w2 hw'
        obtain ⟨xw, hxw⟩ := hw'
        have hb2 := xw.property
        rw [← hxw] at hb2
        clear hxw xw hC hD
        have hb3 : Below w.heap.size w w2 := hb.trans hb2
        go_wp2
        go_ret
        exact ⟨by rw [HNOk.out (by rw [HS.out, ← beq_str, hd])]; rfl, hb3⟩
    · have hk9 : k = 9 := by omega
      subst hk9
      have HA := Lib.hid (HALL.out hm.out)
      have hcx := HV.out wr hb
      generalize mvalid xs = bx at *
      rcases bx with _ | _
      · go_wp2_with fail
        refine hcx.mono ?_
        rintro e w2 ⟨rfl, hb2⟩
        go_wp2
        go_ret
        exact ⟨by rw [HA.out]; rfl, hb.trans (hb2.mono hbs)⟩
      · go_wp2_with fail
        refine hcx.mono ?_
        rintro e w2 ⟨rfl, hb2⟩
        have hb3 := hb.trans (hb2.mono hbs)
        have hs3 := hb3.size
        go_wp2_with fail
        refine (HU.out w2 hb3).mono ?_
        rintro e w3 ⟨rfl, hb4⟩
        go_wp2
        go_ret
        exact ⟨by rw [HA.out]; rfl, hb3.trans (hb4.mono hs3)⟩
end Go.Proofs.Ytdhhmphnmllbhaa
namespace Go.PM
open Go.RowKit
theorem compM_len (xs ys : List Mv) : (compM xs ys).length ≤ 9 := by
  unfold compM
  split
  · exact lsF_len _ 9
  · simp
theorem compM_yes {xs ys : List Mv} (h1 : mvalid xs = true) (h2 : mvalid ys = true) : compM xs ys = lsF (cmpM xs ys) 9 := by rw [compM, h1, h2]; rfl
theorem compM_no {xs ys : List Mv} (h : (mvalid xs && mvalid ys) = false) : compM xs ys = [] := by rw [compM, h]; rfl
def pwL (xs : List Mv) (n : Nat) : List Mv := lsF (pwF (fun q => srcM xs (nm q)) n) 9
theorem pwL_zero (xs : List Mv) : pwL xs 0 = [] := lsF_nm
theorem pwL_succ (xs : List Mv) (n : Nat) : lsF (cmpM (pwL xs n) xs) 9 = pwL xs (n + 1) := cmpM_pw xs n
theorem pwL_len (xs : List Mv) (n : Nat) : (pwL xs n).length ≤ 9 := lsF_len _ 9
def powOk (xs : List Mv) (n : Int) : Bool := mvalid xs && (decide (0 ≤ n) && decide (n ≤ 60))
theorem powM_yes {xs : List Mv} {n : Int} (h : powOk xs n = true) : powM xs n = pwL xs n.toNat := by
  unfold powOk at h; rw [powM, h]; rfl
theorem powM_no {xs : List Mv} {n : Int} (h : powOk xs n = false) : powM xs n = [] := by
  unfold powOk at h; rw [powM, h]; rfl
theorem powM_len (xs : List Mv) (n : Int) : (powM xs n).length ≤ 9 := by
  unfold powM
  split
  · exact lsF_len _ 9
  · simp
end Go.PM
namespace Go.Proofs.Ytdhhmphnmllbhaa
open Go.RowKit Go.PM

end Go.Proofs.Ytdhhmphnmllbhaa
namespace Go.PM
open Go.RowKit
theorem busyM_ok {xs : List Mv} (h : MV xs) : MV (busyM xs) :=
  ⟨fun m hm => h.1 m (List.mem_filter.1 hm).1, h.2.sublist (List.Sublist.map _ (List.filter_sublist ..))⟩
theorem restB_of {xs : List Mv} {m : Mv} (h : MV xs) (hm : m ∈ xs) (hf : rdN xs m.1 = 0) : restB xs m = true := by
  have h1 : mvalid xs = true := by simpa [mvalid] using h
  have h2 : (idxI xs m).isSome = true := by
    rcases idxZ_lt xs m with ⟨_, _, h3⟩ | ⟨i, _, _, h3, _⟩
    · exact absurd hm h3
    · rw [h3]; rfl
  have h3 : freeB xs m = true := by unfold freeB; exact decide_eq_true hf
  unfold restB
  rw [h1, h2, h3]; rfl
/-- the next move is one of the moves without idle ones, and can be done ahead of them -/
theorem rest_next {xs : List Mv} (h : nextB xs = true) : restB (dropM xs) (nextV xs) = true := by
  cases ha : aheadI (dropM xs) with
  | none => unfold nextB at h; rw [ha] at h; cases h
  | some i =>
    obtain ⟨hi, hf⟩ := aheadI_some ha
    have hv := (next_some hi ha).2
    rw [hv]
    have hm := List.getElem_mem hi
    have hMV := (dropM_mem _ hm).2.2.2
    have hd : MV (dropM xs) := by
      unfold dropM
      rw [if_pos (by simpa [mvalid] using hMV)]
      exact busyM_ok hMV
    exact restB_of hd hm hf
theorem restB_parts {xs : List Mv} {m : Mv} (h : restB xs m = true) : MV xs ∧ ∃ (i : Nat) (hi : i < xs.length), xs[i] = m ∧ restM xs m = redM m (xs.eraseIdx i) ∧ rdN xs m.1 = 0 := by
  have h0 := h
  unfold restB at h
  rw [Bool.and_eq_true, Bool.and_eq_true] at h
  have hMV : MV xs := by simpa [mvalid] using h.1.1
  refine ⟨hMV, ?_⟩
  rcases idxZ_lt xs m with ⟨_, h3, _⟩ | ⟨i, hi, _, h3, h4⟩
  · rw [h3] at h; cases h.1.2
  · refine ⟨i, hi, h4, ?_, ?_⟩
    · unfold restM; rw [if_pos h0, h3]; rfl
    · have := h.2
      unfold freeB at this
      simpa using this
theorem rest_MV {xs : List Mv} {m : Mv} (h : restB xs m = true) : MV (restM xs m) ∧ (restM xs m).length + 1 = xs.length := by
  obtain ⟨hMV, i, hi, hx, hr, hf⟩ := restB_parts h
  rw [hr]
  have hm : mok m = true := by rw [← hx]; exact hMV.1 _ (List.getElem_mem hi)
  unfold mok at hm; rw [Bool.and_eq_true] at hm
  refine ⟨⟨fun x hx2 => ?_, ?_⟩, ?_⟩
  · unfold redM at hx2
    split at hx2
    · exact hMV.1 x (erase_mem hx2)
    · obtain ⟨y, hy, e1, e2⟩ := instM_mem hx2
      have hy2 := hMV.1 y (erase_mem hy)
      rcases e2 with ⟨_, e3⟩ | ⟨_, rfl⟩
      · unfold mok at hy2 ⊢
        rw [Bool.and_eq_true] at hy2 ⊢
        rw [e1, e3]
        exact ⟨hy2.1, by unfold isS; rw [hm.1]; rfl⟩
      · exact hy2
  · rw [redM_keys]
    exact hMV.2.sublist ((List.eraseIdx_sublist xs i).map _)
  · rw [redM_len, List.length_eraseIdx_of_lt hi]; omega
theorem one_MV {m : Mv} (h : mok m = true) : MV [m] := ⟨fun x hx => by rw [List.mem_singleton] at hx; rw [hx]; exact h, by simp⟩
theorem srcM_one (m : Mv) (a : ByteArray) : srcM [m] a = if m.1 = a then m.2 else a := by
  unfold srcM
  by_cases h : m.1 = a <;> simp [h]
theorem srcM_key {xs : List Mv} {a : ByteArray} (h : ∀ m ∈ xs, m.1 ≠ a) : srcM xs a = a := by
  refine Classical.byContradiction fun hn => ?_
  exact h _ (mem_of_srcM hn) rfl
/-- the move and what is left behind it do what the moves do -/
theorem rest_same {xs : List Mv} {m : Mv} (h : restB xs m = true) : (mvalid [m] && mvalid (restM xs m)) = true ∧ sameM (compM [m] (restM xs m)) xs = true := by
  obtain ⟨hMV, i, hi, hx, hr, hf⟩ := restB_parts h
  have hR := (rest_MV h).1
  have hm : mok m = true := by rw [← hx]; exact hMV.1 _ (List.getElem_mem hi)
  have h1 := one_MV hm
  have e1 : mvalid [m] = true := by simpa [mvalid] using h1
  have e2 : mvalid (restM xs m) = true := by simpa [mvalid] using hR
  have e3 : mvalid xs = true := by simpa [mvalid] using hMV
  refine ⟨by rw [e1, e2]; rfl, ?_⟩
  unfold mok at hm; rw [Bool.and_eq_true] at hm
  have hmem : m ∈ xs := by rw [← hx]; exact List.getElem_mem hi
  have hkey : ∀ x ∈ xs.eraseIdx i, x.1 ≠ m.1 := by rw [← hx]; exact erase_key hMV.2 hi
  have hno := rdN_zero.1 hf
  have hne : m.1 ≠ m.2 := fun e => hno m hmem e.symm
  have hcm : MV (compM [m] (restM xs m)) := by
    rw [compM_yes e1 e2]; exact lsF_MV (SVal_cmp (SVal_M h1) (SVal_M hR))
  have key : ∀ p, p < 9 → srcM (compM [m] (restM xs m)) (nm p) = srcM xs (nm p) := fun p hp => by
    rw [compM_yes e1 e2, lsF_src _ hp, cmpM_eq]
    have haP := isP_nm hp
    generalize nm p = a at haP
    rw [hr] at hR ⊢
    by_cases ha : a = m.1
    · subst ha
      have hk : srcM (redM m (xs.eraseIdx i)) m.1 = m.1 := srcM_key fun x hx2 e => by
        have h3 : x.1 ∈ (redM m (xs.eraseIdx i)).map (·.1) := List.mem_map.2 ⟨x, hx2, rfl⟩
        rw [redM_keys] at h3
        obtain ⟨y, hy, e4⟩ := List.mem_map.1 h3
        exact hkey y hy (e4.trans e)
      rw [hk, if_pos haP, srcM_one, if_pos rfl, srcM_of_mem hMV hmem]
    · by_cases hk : ∃ b, (a, b) ∈ xs
      · obtain ⟨b, hb⟩ := hk
        have hsx : srcM xs a = b := srcM_of_mem hMV hb
        have hbm : b ≠ m.1 := hno _ hb
        have hbo : (a, b) ∈ xs.eraseIdx i := by
          rcases erase_or hi hb with e | e
          · rw [hx] at e; exact absurd (congrArg (·.1) e) ha
          · exact e
        have hfin : (if isP b = true then srcM [m] b else b) = b := by
          split
          · rw [srcM_one, if_neg (fun e => hbm e.symm)]
          · rfl
        rw [hsx]
        by_cases hD : isD m.2 = true
        · have hin : (a, b) ∈ redM m (xs.eraseIdx i) := by unfold redM; rw [if_pos hD]; exact hbo
          have hs : srcM (redM m (xs.eraseIdx i)) a = b := srcM_of_mem hR hin
          rw [hs]; exact hfin
        · have hin : (if b = m.2 then (a, m.1) else (a, b)) ∈ redM m (xs.eraseIdx i) := by
            unfold redM; rw [if_neg hD]
            exact List.mem_map.2 ⟨(a, b), hbo, rfl⟩
          by_cases hb2 : b = m.2
          · rw [if_pos hb2] at hin
            have hs : srcM (redM m (xs.eraseIdx i)) a = m.1 := srcM_of_mem hR hin
            rw [hs, if_pos hm.1, srcM_one, if_pos rfl, hb2]
          · rw [if_neg hb2] at hin
            have hs : srcM (redM m (xs.eraseIdx i)) a = b := srcM_of_mem hR hin
            rw [hs]; exact hfin
      · have hsx : srcM xs a = a := srcM_key fun x hx2 e => hk ⟨x.2, by rw [← e]; exact hx2⟩
        have hs : srcM (redM m (xs.eraseIdx i)) a = a := srcM_key fun x hx2 e => by
          have h3 : x.1 ∈ (redM m (xs.eraseIdx i)).map (·.1) := List.mem_map.2 ⟨x, hx2, rfl⟩
          rw [redM_keys] at h3
          obtain ⟨y, hy, e4⟩ := List.mem_map.1 h3
          exact hk ⟨y.2, by rw [← e, ← e4]; exact erase_mem hy⟩
        rw [hs, hsx, if_pos haP, srcM_one, if_neg (fun e => ha e.symm)]
  unfold sameM
  rw [show mvalid (compM [m] (restM xs m)) = true by simpa [mvalid] using hcm, e3, Bool.true_and, Bool.true_and, List.all_eq_true]
  intro p hp
  unfold sameAt
  rw [decide_eq_true_eq]
  exact key p (List.mem_range.1 hp)
end Go.PM
namespace Go.PM
open Go.RowKit
theorem SVal_then {f g : Nat → ByteArray} (h1 : SVal (srcT f)) (h2 : SVal (srcT g)) : SVal (srcT (thenF f g)) := by
  intro p hp
  rw [srcT_then]
  exact SVal_cmp h1 h2 p hp
theorem SVal_tab {xs : List Mv} (h : MV xs) : SVal (srcT (tabOf xs)) := by
  intro p hp
  rw [srcT_M h hp]
  exact SVal_M h p hp
theorem SVal_zero : SVal (srcT fun _ => emp) := fun _ h => isS_nm h
/-- what the loop of power holds: what is done, what is left -/
structure PwR (f : Nat → ByteArray) (N : Nat) (d x : Nat → ByteArray) (k : Nat) : Prop where
  inv : PwInv f N d x k
  dv : SVal (srcT d)
  xv : SVal (srcT x)
theorem PwR.start {f : Nat → ByteArray} (h : SVal (srcT f)) (N : Nat) : PwR f N (fun _ => emp) f N := ⟨PwInv_start f N, SVal_zero, h⟩
theorem PwR.odd {f d x : Nat → ByteArray} {N n : Nat} (h : PwR f N d x n) (h1 : n % 2 = 1) : PwR f N (thenF d x) (thenF x x) (n / 2) := ⟨PwInv_odd h.inv h1, SVal_then h.dv h.xv, SVal_then h.xv h.xv⟩
theorem PwR.even {f d x : Nat → ByteArray} {N n : Nat} (h : PwR f N d x n) (h1 : n % 2 = 0) : PwR f N d (thenF x x) (n / 2) := ⟨PwInv_even h.inv h1, h.dv, SVal_then h.xv h.xv⟩
theorem PwR.done {f d x : Nat → ByteArray} {N : Nat} (h : PwR f N d x 0) : ∀ p, p < 9 → srcT d p = pwF (srcT f) N p := fun _ hp => PwInv_end h.inv hp
end Go.PM
namespace Go.Proofs.Ytdhhmphnmllbhaa
open Go.RowKit Go.PM

theorem then_v (f g : Nat → ByteArray) (hg : SVal (srcT g)) (w : World) :
    Calls Try.prog 65 #[tabX f, tabX g] w fun e w' => e = .returned (tabX (thenF f g)) ∧ Below w.heap.size w w' := then_c f g hg w
theorem idle_v (f : Nat → ByteArray) (w : World) :
    Calls Try.prog 66 #[tabX f] w fun e w' => e = .returned (tabX (noIdle f)) ∧ Below w.heap.size w w' := idle_c f w
end Go.Proofs.Ytdhhmphnmllbhaa
namespace Go.PM
open Go.RowKit
theorem powM_tab {xs : List Mv} (h : MV xs) {d : Nat → ByteArray} {n : Nat} (hn : n ≤ 60) (hd : ∀ p, p < 9 → srcT d p = pwF (srcT (tabOf xs)) n p) : mvT (noIdle d) (List.range 9) = powM xs (n : Int) := by
  have m1 : mvalid xs = true := by simpa [mvalid] using h
  have hok : powOk xs (n : Int) = true := by
    unfold powOk
    rw [m1]
    simp
    omega
  rw [powM_yes hok, mvT_idle]
  refine lsF_congr fun p hp => ?_
  rw [hd p hp]
  exact pwF_congr (fun q hq => srcT_M h hq) n p hp
end Go.PM
namespace Go.Proofs.Ytdhhmphnmllbhaa
open Go.RowKit Go.PM

set_option maxRecDepth 100000 in
set_option maxHeartbeats 2000000 in
theorem imComposeMoves_c (xs ys : List Mv) (v u : Value) (w : World) (hx : RdM w v xs) (hy : RdM w u ys) :
    Calls Try.prog 27 #[v, u] w fun e w' => ∃ v', e = .returned (.tuple #[v', .bool (mvalid xs && mvalid ys)]) ∧ w'.ownsRow w.heap.size 37 2 v' (compM xs ys).length (mcells (compM xs ys)) ∧ Below w.heap.size w w' := by
  have HY := Lib.hid (fun W (hW : Below w.heap.size w W) => hy.below hW)
  by_cases h1 : MV xs
  · have HX := Lib.hid (tableOf_yes xs h1 v w hx)
    have HM1 := Lib.hid (show mvalid xs = true by simpa [mvalid] using h1)
    by_cases h2 : MV ys
    · have HT := Lib.hid (fun W hW => tableOf_yes ys h2 u W hW)
      have HM2 := Lib.hid (show mvalid ys = true by simpa [mvalid] using h2)
      have HR := Lib.hid (compM_tab h1 h2)
      have HTH := Lib.hid (fun W => then_v (tabOf xs) (tabOf ys) (SVal_tab h2) W)
      clear h1 h2 hx hy
      go_enter Try.func27, Try.ntmps27
      go_wp2_with fail
      refine HX.out.mono ?_
      rintro e w1 ⟨rfl, hb1⟩
      have hs1 := hb1.size
      have hy1 := HY.out _ (hb1.alloc hs1 (.cells (tabA (tabOf xs)) 62))
      go_wp2_with fail
      refine (HT.out _ hy1).mono ?_
      rintro e w2 ⟨rfl, hb2⟩
      have k1 : At (w1.alloc (.cells (tabA (tabOf xs)) 62)) w1.heap.size 62 (tabA (tabOf xs)) := At.new w1 _ _
      have k2 := (k1.keep hb2).alloc (.cells (tabA (tabOf ys)) 62)
      have k3 := At.new w2 62 (tabA (tabOf ys))
      have hB2 := (hb1.alloc hs1 (.cells (tabA (tabOf xs)) 62)).trans (hb2.mono (by simp [World.size_alloc]; omega))
      have hs2 := hB2.size
      have hB3 := hB2.alloc hs2 (.cells (tabA (tabOf ys)) 62)
      have hs3 := hB3.size
      clear hb2 k1 hy1 hb1
      generalize thenF (tabOf xs) (tabOf ys) = tt at *
      generalize tabOf xs = f at *
      generalize tabOf ys = g at *
      go_wp2_with (first | (refine ld_row rfl 62 (.tmp 6) rfl w1.heap.size 62 (tabC f) k2 (by rfl) 9 9 Try.underlying62 (by kernel_rfl) ?_) | (refine ld_row rfl 62 (.tmp 8) rfl w2.heap.size 62 (tabC g) k3 (by rfl) 9 9 Try.underlying62 (by kernel_rfl) ?_) | (go_at_call 65; refine (HTH.out _).mono ?_; rintro e w4 ⟨rfl, hb4⟩; refine held ?_))
      unfold Held
      have hB4 := hB3.trans (hb4.mono hs3)
      have hs4 := hB4.size
      clear hb4 k2 k3 hB3
      go_wp2_with (go_at_call 66; refine (idle_v tt _).mono ?_; rintro e w5 ⟨rfl, hb5⟩; refine held ?_)
      unfold Held
      have hB5 := hB4.trans (hb5.mono hs4)
      have hs5 := hB5.size
      clear hb5 hB4
      have HLI := Lib.hid (fun W => list_c (noIdle tt) W)
      rw [HR.out] at HLI
      go_wp2_with (go_at_call 49; refine (HLI.out _).mono ?_; rintro e w6 ⟨v', rfl, ho, hb6⟩; refine held ?_)
      unfold Held
      have hB6 := hB5.trans (hb6.mono hs5)
      have ho6 := own_more ho hs5
      clear hb6 hB5 ho
      go_wp2
      go_ret2
      exact ⟨_, by rw [HM1.out, HM2.out]; rfl, ho6, hB6⟩
    · have HT := Lib.hid (fun W hW => tableOf_no ys h2 u W hW)
      have HM2 := Lib.hid (show mvalid ys = false by simpa [mvalid] using h2)
      have HNO := Lib.hid (compM_no (xs := xs) (ys := ys) (by rw [HM2.out, Bool.and_false]))
      clear h1 h2 hx hy
      go_enter Try.func27, Try.ntmps27
      go_wp2_with fail
      refine HX.out.mono ?_
      rintro e w1 ⟨rfl, hb1⟩
      have hs1 := hb1.size
      have hy1 := HY.out _ (hb1.alloc hs1 (.cells (tabA (tabOf xs)) 62))
      go_wp2_with fail
      refine (HT.out _ hy1).mono ?_
      rintro e w2 ⟨rfl, hb2⟩
      have hB2 := (hb1.alloc hs1 (.cells (tabA (tabOf xs)) 62)).trans (hb2.mono (by simp [World.size_alloc]; omega))
      have hs2 := hB2.size
      clear hb2 hy1 hb1
      go_wp2
      go_ret2
      exact ⟨_, by rw [HM2.out, Bool.and_false]; rfl, by rw [HNO.out]; exact ⟨rfl, .inl ⟨rfl, rfl⟩⟩, by (repeat' (first | (with_reducible exact Below.refl _ _) | (with_reducible assumption) | (with_reducible refine Below.alloc ?_ ?_ _) | (with_reducible refine Below.drew ?_) | (with_reducible refine Below.setCell ?_ ?_ _) | (with_reducible exact Nat.le_refl _) | omega | ((repeat (first | rewrite [World.size_alloc] | rewrite [World.size_setCell] | rewrite [World.size_drew])); omega) | (simp; omega) | (simp; done)))⟩
  · have HM1 := Lib.hid (show mvalid xs = false by simpa [mvalid] using h1)
    have HNO := Lib.hid (compM_no (xs := xs) (ys := ys) (by rw [HM1.out, Bool.false_and]))
    have HX := Lib.hid (tableOf_no xs h1 v w hx)
    by_cases h2 : MV ys
    all_goals
      first | (have HT := Lib.hid (fun W hW => tableOf_yes ys h2 u W hW)) | (have HT := Lib.hid (fun W hW => tableOf_no ys h2 u W hW))
      clear h1 h2 hx hy
      go_enter Try.func27, Try.ntmps27
      go_wp2_with fail
      refine HX.out.mono ?_
      rintro e w1 ⟨rfl, hb1⟩
      have hs1 := hb1.size
      have hy1 := HY.out _ (hb1.alloc hs1 (.cells (tabA (fun _ => emp)) 62))
      go_wp2_with fail
      refine (HT.out _ hy1).mono ?_
      rintro e w2 ⟨rfl, hb2⟩
      have hB2 := (hb1.alloc hs1 (.cells (tabA (fun _ => emp)) 62)).trans (hb2.mono (by simp [World.size_alloc]; omega))
      have hs2 := hB2.size
      clear hb2 hy1 hb1
      go_wp2
      go_ret2
      exact ⟨_, by rw [HM1.out, Bool.false_and]; rfl, by rw [HNO.out]; exact ⟨rfl, .inl ⟨rfl, rfl⟩⟩, by (repeat' (first | (with_reducible exact Below.refl _ _) | (with_reducible assumption) | (with_reducible refine Below.alloc ?_ ?_ _) | (with_reducible refine Below.drew ?_) | (with_reducible refine Below.setCell ?_ ?_ _) | (with_reducible exact Nat.le_refl _) | omega | ((repeat (first | rewrite [World.size_alloc] | rewrite [World.size_setCell] | rewrite [World.size_drew])); omega) | (simp; omega) | (simp; done)))⟩
end Go.Proofs.Ytdhhmphnmllbhaa
namespace Go.PM
open Go.RowKit
theorem sameM_tab {xs ys : List Mv} (h1 : MV xs) (h2 : MV ys) : sameM xs ys = (List.range 9).all (fun p => decide (mix (tabOf xs) 9 p = mix (tabOf ys) 9 p)) := by
  have m1 : mvalid xs = true := by simpa [mvalid] using h1
  have m2 : mvalid ys = true := by simpa [mvalid] using h2
  rw [sameM, m1, m2, Bool.true_and, Bool.true_and]
  apply Bool.eq_iff_iff.2
  rw [List.all_eq_true, List.all_eq_true]
  have key : ∀ p, p ∈ List.range 9 → sameAt xs ys p = decide (mix (tabOf xs) 9 p = mix (tabOf ys) 9 p) := fun p hp => by
    have hp9 : p < 9 := by simpa using hp
    simp only [sameAt, mix, if_pos hp9]
    rw [srcM_nm h1 hp9, srcM_nm h2 hp9]
  constructor
  · intro h p hp; rw [← key p hp]; exact h p hp
  · intro h p hp; rw [key p hp]; exact h p hp
end Go.PM
namespace Go.Proofs.Ytdhhmphnmllbhaa
open Go.RowKit Go.PM

set_option maxRecDepth 100000 in
set_option maxHeartbeats 2000000 in
theorem same_c (f g : Nat → ByteArray) (w : World) :
    Calls Try.prog 53 #[tabX f, tabX g] w fun e w' => e = .returned (.bool ((List.range 9).all fun p => decide (mix f 9 p = mix g 9 p))) ∧ Below w.heap.size w w' := by
  have hW : ∃ W3 : World, W3 = (w.alloc (.cells (tabA f) 62)).alloc (.cells (tabA g) 62) := ⟨_, rfl⟩
  obtain ⟨W3, hW3⟩ := hW
  have K1 : At W3 w.heap.size 62 (tabA f) := by rw [hW3]; exact (At.new w _ _).alloc _
  have K2 : At W3 (w.heap.size + 1) 62 (tabA g) := by
    rw [hW3]; have := At.new (w.alloc (.cells (tabA f) 62)) 62 (tabA g)
    rwa [World.size_alloc] at this
  have hB3 : Below w.heap.size w W3 := by rw [hW3]; (repeat' (first | (with_reducible exact Below.refl _ _) | (with_reducible assumption) | (with_reducible refine Below.alloc ?_ ?_ _) | (with_reducible refine Below.drew ?_) | (with_reducible refine Below.setCell ?_ ?_ _) | (with_reducible exact Nat.le_refl _) | omega | ((repeat (first | rewrite [World.size_alloc] | rewrite [World.size_setCell] | rewrite [World.size_drew])); omega) | (simp; omega) | (simp; done)))
  have B1 := K1.lt
  have B2 := K2.lt
  have hs3 := hB3.size
  have hc0 : ∀ x : Ext W3.heap.size W3, x.val.cell? ⟨w.heap.size, 0, none⟩ = some (.string (f 0)) := fun x => (x.property.cell (p := ⟨w.heap.size, 0, none⟩) B1).trans (K1.cell 0)
  have hc1 : ∀ x : Ext W3.heap.size W3, x.val.cell? ⟨w.heap.size, 1, none⟩ = some (.string (f 1)) := fun x => (x.property.cell (p := ⟨w.heap.size, 1, none⟩) B1).trans (K1.cell 1)
  have hc2 : ∀ x : Ext W3.heap.size W3, x.val.cell? ⟨w.heap.size, 2, none⟩ = some (.string (f 2)) := fun x => (x.property.cell (p := ⟨w.heap.size, 2, none⟩) B1).trans (K1.cell 2)
  have hc3 : ∀ x : Ext W3.heap.size W3, x.val.cell? ⟨w.heap.size, 3, none⟩ = some (.string (f 3)) := fun x => (x.property.cell (p := ⟨w.heap.size, 3, none⟩) B1).trans (K1.cell 3)
  have hc4 : ∀ x : Ext W3.heap.size W3, x.val.cell? ⟨w.heap.size, 4, none⟩ = some (.string (f 4)) := fun x => (x.property.cell (p := ⟨w.heap.size, 4, none⟩) B1).trans (K1.cell 4)
  have hc5 : ∀ x : Ext W3.heap.size W3, x.val.cell? ⟨w.heap.size, 5, none⟩ = some (.string (f 5)) := fun x => (x.property.cell (p := ⟨w.heap.size, 5, none⟩) B1).trans (K1.cell 5)
  have hc6 : ∀ x : Ext W3.heap.size W3, x.val.cell? ⟨w.heap.size, 6, none⟩ = some (.string (f 6)) := fun x => (x.property.cell (p := ⟨w.heap.size, 6, none⟩) B1).trans (K1.cell 6)
  have hc7 : ∀ x : Ext W3.heap.size W3, x.val.cell? ⟨w.heap.size, 7, none⟩ = some (.string (f 7)) := fun x => (x.property.cell (p := ⟨w.heap.size, 7, none⟩) B1).trans (K1.cell 7)
  have hc8 : ∀ x : Ext W3.heap.size W3, x.val.cell? ⟨w.heap.size, 8, none⟩ = some (.string (f 8)) := fun x => (x.property.cell (p := ⟨w.heap.size, 8, none⟩) B1).trans (K1.cell 8)
  have hd0 : ∀ x : Ext W3.heap.size W3, x.val.cell? ⟨w.heap.size + 1, 0, none⟩ = some (.string (g 0)) := fun x => (x.property.cell (p := ⟨w.heap.size + 1, 0, none⟩) B2).trans (K2.cell 0)
  have hd1 : ∀ x : Ext W3.heap.size W3, x.val.cell? ⟨w.heap.size + 1, 1, none⟩ = some (.string (g 1)) := fun x => (x.property.cell (p := ⟨w.heap.size + 1, 1, none⟩) B2).trans (K2.cell 1)
  have hd2 : ∀ x : Ext W3.heap.size W3, x.val.cell? ⟨w.heap.size + 1, 2, none⟩ = some (.string (g 2)) := fun x => (x.property.cell (p := ⟨w.heap.size + 1, 2, none⟩) B2).trans (K2.cell 2)
  have hd3 : ∀ x : Ext W3.heap.size W3, x.val.cell? ⟨w.heap.size + 1, 3, none⟩ = some (.string (g 3)) := fun x => (x.property.cell (p := ⟨w.heap.size + 1, 3, none⟩) B2).trans (K2.cell 3)
  have hd4 : ∀ x : Ext W3.heap.size W3, x.val.cell? ⟨w.heap.size + 1, 4, none⟩ = some (.string (g 4)) := fun x => (x.property.cell (p := ⟨w.heap.size + 1, 4, none⟩) B2).trans (K2.cell 4)
  have hd5 : ∀ x : Ext W3.heap.size W3, x.val.cell? ⟨w.heap.size + 1, 5, none⟩ = some (.string (g 5)) := fun x => (x.property.cell (p := ⟨w.heap.size + 1, 5, none⟩) B2).trans (K2.cell 5)
  have hd6 : ∀ x : Ext W3.heap.size W3, x.val.cell? ⟨w.heap.size + 1, 6, none⟩ = some (.string (g 6)) := fun x => (x.property.cell (p := ⟨w.heap.size + 1, 6, none⟩) B2).trans (K2.cell 6)
  have hd7 : ∀ x : Ext W3.heap.size W3, x.val.cell? ⟨w.heap.size + 1, 7, none⟩ = some (.string (g 7)) := fun x => (x.property.cell (p := ⟨w.heap.size + 1, 7, none⟩) B2).trans (K2.cell 7)
  have hd8 : ∀ x : Ext W3.heap.size W3, x.val.cell? ⟨w.heap.size + 1, 8, none⟩ = some (.string (g 8)) := fun x => (x.property.cell (p := ⟨w.heap.size + 1, 8, none⟩) B2).trans (K2.cell 8)
  have HSf : ∀ x : Ext W3.heap.size W3, Calls Try.prog 89 #[tabX f] x.val fun e w' => e = .returned (tabX (mix f 9)) ∧ Below x.val.heap.size x.val w' := fun x => sources_c f x.val
  have HSg : ∀ x : Ext W3.heap.size W3, Calls Try.prog 89 #[tabX g] x.val fun e w' => e = .returned (tabX (mix g 9)) ∧ Below x.val.heap.size x.val w' := fun x => sources_c g x.val
  generalize mix f 9 = f9 at *
  generalize mix g 9 = g9 at *
  have hEq : ∀ W, (Op.equalIn 10000 62 (tabX f9) (tabX g9)).run Try.prog W = .ok ((List.range 9).all fun p => decide (f9 p = g9 p)) W := fun W => by rw [← all_beq]; exact eq_tab f9 g9 W
  generalize ((List.range 9).all fun p => decide (f9 p = g9 p)) = r at *
  go_enter Try.func53, Try.ntmps53
  go_wp2
  rw [← hW3]
  refine wp_region_ext W3.heap.size (by kernel_rfl) (by kernel_rfl) ?_
  repeat (go_big_quiet_step ((go_at_call 89; first | (with_reducible exact ext_call _ (Nat.le_refl _) (HSf _)) | (with_reducible exact ext_call _ (Nat.le_refl _) (HSg _)))))
  refine wpQuiet_nil ?_
  intro w4 hw'
  obtain ⟨xw, hxw⟩ := hw'
  have hb4 := xw.property
  rw [← hxw] at hb4
  clear hxw xw
  clear hEq HSf HSg hc0 hd0 hc1 hd1 hc2 hd2 hc3 hd3 hc4 hd4 hc5 hd5 hc6 hd6 hc7 hd7 hc8 hd8
  go_wp2
  go_ret
  exact ⟨rfl, hB3.trans (hb4.mono hs3)⟩

set_option maxRecDepth 100000 in
set_option maxHeartbeats 2000000 in
theorem imSameMoves_c (xs ys : List Mv) (v u : Value) (w : World) (hx : RdM w v xs) (hy : RdM w u ys) :
    Calls Try.prog 19 #[v, u] w fun e w' => e = .returned (.bool (sameM xs ys)) ∧ Below w.heap.size w w' := by
  have HY := Lib.hid (fun W (hW : Below w.heap.size w W) => hy.below hW)
  by_cases h1 : MV xs
  · have HX := Lib.hid (tableOf_yes xs h1 v w hx)
    by_cases h2 : MV ys
    · have HT := Lib.hid (fun W hW => tableOf_yes ys h2 u W hW)
      have HE := Lib.hid (sameM_tab h1 h2)
      clear h1 h2 hx hy
      go_enter Try.func19, Try.ntmps19
      go_wp2_with fail
      refine HX.out.mono ?_
      rintro e w1 ⟨rfl, hb1⟩
      have hs1 := hb1.size
      have hy1 := HY.out _ (hb1.alloc hs1 (.cells (tabA (tabOf xs)) 62))
      go_wp2_with fail
      refine (HT.out _ hy1).mono ?_
      rintro e w2 ⟨rfl, hb2⟩
      have k1 : At (w1.alloc (.cells (tabA (tabOf xs)) 62)) w1.heap.size 62 (tabA (tabOf xs)) := At.new w1 _ _
      have k2 := k1.keep hb2
      have hB2 := (hb1.alloc hs1 (.cells (tabA (tabOf xs)) 62)).trans (hb2.mono (by simp [World.size_alloc]; omega))
      have hs2 := hB2.size
      have hB3 := hB2.alloc hs2 (.cells (tabA (tabOf ys)) 62)
      have hs3 := hB3.size
      clear hb2 k1 hy1
      generalize tabOf xs = f at *
      generalize tabOf ys = g at *
      obtain ⟨r, hr⟩ : ∃ r, r = ((List.range 9).all fun p => decide (mix f 9 p = mix g 9 p)) := ⟨_, rfl⟩
      have HS := Lib.hid (fun W => same_c f g W)
      rw [← hr] at HS HE
      clear hr
      have q0 : w2.cell? ⟨w1.heap.size, 0, none⟩ = some (.string (f 0)) := k2.cell 0
      have q1 : w2.cell? ⟨w1.heap.size, 1, none⟩ = some (.string (f 1)) := k2.cell 1
      have q2 : w2.cell? ⟨w1.heap.size, 2, none⟩ = some (.string (f 2)) := k2.cell 2
      have q3 : w2.cell? ⟨w1.heap.size, 3, none⟩ = some (.string (f 3)) := k2.cell 3
      have q4 : w2.cell? ⟨w1.heap.size, 4, none⟩ = some (.string (f 4)) := k2.cell 4
      have q5 : w2.cell? ⟨w1.heap.size, 5, none⟩ = some (.string (f 5)) := k2.cell 5
      have q6 : w2.cell? ⟨w1.heap.size, 6, none⟩ = some (.string (f 6)) := k2.cell 6
      have q7 : w2.cell? ⟨w1.heap.size, 7, none⟩ = some (.string (f 7)) := k2.cell 7
      have q8 : w2.cell? ⟨w1.heap.size, 8, none⟩ = some (.string (f 8)) := k2.cell 8
      have hl := k2.lt
      go_wp2_with fail
      refine (HS.out _).mono ?_
      rintro e w4 ⟨rfl, hb4⟩
      clear q0 q1 q2 q3 q4 q5 q6 q7 q8
      have HB := Lib.hid (hB3.trans (hb4.mono hs3))
      clear hb4 hB3 hB2
      go_wp2
      go_ret
      exact ⟨by rw [HE.out]; rfl, HB.out⟩
    · have HT := Lib.hid (fun W hW => tableOf_no ys h2 u W hW)
      have HNO : Hid (sameM xs ys = false) := by
        have : mvalid ys = false := by simpa [mvalid] using h2
        show _ = _
        rw [sameM, this, Bool.and_false, Bool.false_and]
      clear h1 h2 hx hy
      go_enter Try.func19, Try.ntmps19
      go_wp2_with fail
      refine HX.out.mono ?_
      rintro e w1 ⟨rfl, hb1⟩
      have hs1 := hb1.size
      have hy1 := HY.out _ (hb1.alloc hs1 (.cells (tabA (tabOf xs)) 62))
      go_wp2_with fail
      refine (HT.out _ hy1).mono ?_
      rintro e w2 ⟨rfl, hb2⟩
      have hB2 := (hb1.alloc hs1 (.cells (tabA (tabOf xs)) 62)).trans (hb2.mono (by simp [World.size_alloc]; omega))
      have hs2 := hB2.size
      clear hb2 hy1
      go_wp2
      go_ret
      exact ⟨by rw [HNO.out]; rfl, by (repeat' (first | (with_reducible exact Below.refl _ _) | (with_reducible assumption) | (with_reducible refine Below.alloc ?_ ?_ _) | (with_reducible refine Below.drew ?_) | (with_reducible refine Below.setCell ?_ ?_ _) | (with_reducible exact Nat.le_refl _) | omega | ((repeat (first | rewrite [World.size_alloc] | rewrite [World.size_setCell] | rewrite [World.size_drew])); omega) | (simp; omega) | (simp; done)))⟩
  · have HNO : Hid (sameM xs ys = false) := by
      have : mvalid xs = false := by simpa [mvalid] using h1
      show _ = _
      rw [sameM, this, Bool.false_and, Bool.false_and]
    have HX := Lib.hid (tableOf_no xs h1 v w hx)
    by_cases h2 : MV ys
    all_goals
      first | (have HT := Lib.hid (fun W hW => tableOf_yes ys h2 u W hW)) | (have HT := Lib.hid (fun W hW => tableOf_no ys h2 u W hW))
      clear h1 h2 hx hy
      go_enter Try.func19, Try.ntmps19
      go_wp2_with fail
      refine HX.out.mono ?_
      rintro e w1 ⟨rfl, hb1⟩
      have hs1 := hb1.size
      have hy1 := HY.out _ (hb1.alloc hs1 (.cells (tabA (fun _ => emp)) 62))
      go_wp2_with fail
      refine (HT.out _ hy1).mono ?_
      rintro e w2 ⟨rfl, hb2⟩
      have hB2 := (hb1.alloc hs1 (.cells (tabA (fun _ => emp)) 62)).trans (hb2.mono (by simp [World.size_alloc]; omega))
      have hs2 := hB2.size
      clear hb2 hy1
      go_wp2
      go_ret
      exact ⟨by rw [HNO.out]; rfl, by (repeat' (first | (with_reducible exact Below.refl _ _) | (with_reducible assumption) | (with_reducible refine Below.alloc ?_ ?_ _) | (with_reducible refine Below.drew ?_) | (with_reducible refine Below.setCell ?_ ?_ _) | (with_reducible exact Nat.le_refl _) | omega | ((repeat (first | rewrite [World.size_alloc] | rewrite [World.size_setCell] | rewrite [World.size_drew])); omega) | (simp; omega) | (simp; done)))⟩
end Go.Proofs.Ytdhhmphnmllbhaa
namespace Go.PM
open Go.RowKit
theorem mvEq_self (a b : ByteArray) : mvEq a b a b = true := by simp [mvEq]
theorem restM_no {xs : List Mv} {m : Mv} (h : restB xs m = false) : restM xs m = [] := by unfold restM; rw [h]; rfl
end Go.PM
namespace Go.Proofs.Ytdhhmphnmllbhaa
open Go.RowKit Go.PM
attribute [local go_sem] Oper.semAt_some
set_option maxRecDepth 100000 in
set_option maxHeartbeats 3200000 in
theorem exRestBehind (w : World) (v0 : Value) (n0 : Nat) (hv : RdB w w.heap.size v0 n0) :
    Calls Try.prog 5 #[v0] w fun e w' => e = .returned (.bool true) ∧ Below w.heap.size w w' := by
  have hv0 := hv
  obtain ⟨A, cap, rfl, hc, hn, _⟩ := hv
  by_cases hbig : 1048576 < n0
  · have t : decide ((n0 : Int) > 1048576) = true := by simp; omega
    go_enter Try.func5, Try.ntmps5
    go_wp2
    go_ret
    exact ⟨rfl, Below.refl _ _⟩
  have t : decide ((n0 : Int) > 1048576) = false := by simp; omega
  have HD := Lib.hid (drawRestBehind_c w _ n0 hv0)
  clear hv0
  go_enter Try.func5, Try.ntmps5
  go_wp2_with fail
  refine HD.out.mono ?_
  rintro e w1 ⟨u, xs, ma, mb, rfl, ho, ⟨hl, hz⟩, hza, hzb, b1⟩
  have R1 : RdM w1 u xs := Rd.of_own ho
  have hz1 : ∀ m ∈ xs, m.1.size ≤ 9223372036854775807 ∧ m.2.size ≤ 9223372036854775807 := fun m hm => by have := hz m hm; omega
  have HIR := Lib.hid (fun W (R : RdM W u xs) => imRestBehind_c xs u (ma, mb) W R (by omega))
  have HSR := Lib.hid (fun W (R : RdM W u xs) => spRestBehind_c xs u (ma, mb) W R hz1 (by omega))
  have HIN := Lib.hid (fun W (R : RdM W u xs) => imNextMove_c xs u W R (by omega))
  have HSN := Lib.hid (fun W (R : RdM W u xs) => spNextMove_c xs u W R hz1 (by omega))
  have HDI := Lib.hid (fun W (R : RdM W u xs) => imDropIdle_c xs u W R (by omega))
  have HNB := Lib.hid (fun v W (R : RdM W v (dropM xs)) => imRestBehind_c (dropM xs) v (nextV xs) W R (by have := dropM_nine xs; omega))
  have HQ : Hid (∀ zs v u W, RdM W v zs → RdM W u zs → Calls Try.prog 18 #[v, u] W fun e w' => e = .returned (.bool true) ∧ Below W.heap.size W w') := fun zs v u W P Q => by
    have := pmSame_c zs zs v u W P Q
    rwa [show decide (zs = zs) = true by simp] at this
  have HC := Lib.hid (fun v W (P : RdM W v [(ma, mb)]) v' (Q : RdM W v' (restM xs (ma, mb))) => imComposeMoves_c [(ma, mb)] (restM xs (ma, mb)) v v' W P Q)
  have HS := Lib.hid (fun v W (P : RdM W v (compM [(ma, mb)] (restM xs (ma, mb)))) (R : RdM W u xs) => imSameMoves_c (compM [(ma, mb)] (restM xs (ma, mb))) xs v u W P R)
  have HV := Lib.hid (fun v W (P : RdM W v (restM xs (ma, mb))) => imMovesValid_c (restM xs (ma, mb)) v W P)
  have HRN := Lib.hid (@rest_next xs)
  have HRS := Lib.hid (@rest_same xs (ma, mb))
  have HRV := Lib.hid (@rest_MV xs (ma, mb))
  have HNO := Lib.hid (@restM_no xs (ma, mb))
  obtain ⟨Au, cu, eu, _⟩ := R1.open
  subst eu
  have hM1 := At.new w1 37 #[.string ma, .string mb]
  have b1a := b1.alloc b1.size (.cells #[.string ma, .string mb] 37)
  have R1a := R1.below ((Below.refl w1.heap.size w1).alloc (Nat.le_refl _) (.cells #[.string ma, .string mb] 37))
  have hsa : (w1.alloc (.cells #[.string ma, .string mb] 37)).heap.size = w1.heap.size + 1 := World.size_alloc _ _
  clear HD ho hz hz1 b1 R1
  go_wp2_with fail
  refine (HIR.out _ R1a).mono ?_
  rintro e w2 ⟨vr, rfl, or_, h2⟩
  have b2 := b1a.trans (h2.mono b1a.size)
  have R2 := R1a.below h2
  have M2 := hM1.keep h2
  have D2 : RdM w2 vr (restM xs (ma, mb)) := Rd.of_own or_
  have hlt2 : w1.heap.size < w2.heap.size := by have := h2.size; omega
  obtain ⟨c1, c2⟩ := two_at M2
  clear or_ h2 b1a R1a hM1
  go_wp2_with fail
  refine (HSR.out _ R2).mono ?_
  rintro e w3 ⟨vs, rfl, os_, h3⟩
  have b3 := b2.trans (h3.mono b2.size)
  have R3 := R2.below h3
  have M3 := M2.keep h3
  have D3 := D2.below h3
  have E3 : RdM w3 vs (restM xs (ma, mb)) := Rd.of_own os_
  have hlt3 : w1.heap.size < w3.heap.size := by have := h3.size; omega
  clear os_ h3 b2 R2 M2 D2 c1 c2
  go_wp2_with fail
  refine (HIN.out _ R3).mono ?_
  rintro e w4 ⟨rfl, h4⟩
  have b4 := b3.trans (h4.mono b3.size)
  have R4 := R3.below h4
  have M4 := M3.keep h4
  have D4 := D3.below h4
  have E4 := E3.below h4
  have hx : ∀ o, Below w4.heap.size w4 (w4.alloc o) := fun o => (Below.refl _ _).alloc (Nat.le_refl _) o
  have N4 := At.new w4 37 #[.string (nextV xs).1, .string (nextV xs).2]
  have b4a := b4.alloc b4.size (.cells #[.string (nextV xs).1, .string (nextV xs).2] 37)
  have R4a := R4.below (hx (.cells #[.string (nextV xs).1, .string (nextV xs).2] 37))
  have M4a := M4.keep (hx (.cells #[.string (nextV xs).1, .string (nextV xs).2] 37))
  have D4a := D4.below (hx (.cells #[.string (nextV xs).1, .string (nextV xs).2] 37))
  have E4a := E4.below (hx (.cells #[.string (nextV xs).1, .string (nextV xs).2] 37))
  have hlt4 : w1.heap.size < w4.heap.size := by have := h4.size; omega
  have hs4a : (w4.alloc (.cells #[.string (nextV xs).1, .string (nextV xs).2] 37)).heap.size = w4.heap.size + 1 := World.size_alloc _ _
  clear h4 b3 R3 M3 D3 E3 b4 R4 M4 D4 E4 hx
  go_wp2_with fail
  refine (HSN.out _ R4a).mono ?_
  rintro e w5 ⟨rfl, h5⟩
  have b5 := b4a.trans (h5.mono b4a.size)
  have R5 := R4a.below h5
  have M5 := M4a.keep h5
  have N5 := N4.keep h5
  have D5 := D4a.below h5
  have E5 := E4a.below h5
  have hlt5 : w4.heap.size < w5.heap.size := by have := h5.size; omega
  have hx : ∀ o, Below w5.heap.size w5 (w5.alloc o) := fun o => (Below.refl _ _).alloc (Nat.le_refl _) o
  have b5a := b5.alloc b5.size (.cells #[.string (nextV xs).1, .string (nextV xs).2] 37)
  have R5a := R5.below (hx (.cells #[.string (nextV xs).1, .string (nextV xs).2] 37))
  have M5a := M5.keep (hx (.cells #[.string (nextV xs).1, .string (nextV xs).2] 37))
  have N5a := N5.keep (hx (.cells #[.string (nextV xs).1, .string (nextV xs).2] 37))
  have D5a := D5.below (hx (.cells #[.string (nextV xs).1, .string (nextV xs).2] 37))
  have E5a := E5.below (hx (.cells #[.string (nextV xs).1, .string (nextV xs).2] 37))
  have P5 := At.new w5 37 #[.string (nextV xs).1, .string (nextV xs).2]
  have hs5a : (w5.alloc (.cells #[.string (nextV xs).1, .string (nextV xs).2] 37)).heap.size = w5.heap.size + 1 := World.size_alloc _ _
  clear h5 b4a R4a M4a N4 D4a E4a b5 R5 M5 N5 D5 E5 hx
  go_wp2_with fail
  refine (HQ.out _ _ _ _ D5a E5a).mono ?_
  rintro e w6 ⟨rfl, h6⟩
  have b6 := b5a.trans (h6.mono b5a.size)
  have R6 := R5a.below h6
  have M6 := M5a.keep h6
  have N6 := N5a.keep h6
  have P6 := P5.keep h6
  have D6 := D5a.below h6
  have hlt6 : w5.heap.size < w6.heap.size := by have := h6.size; omega
  obtain ⟨n1, n2⟩ := two_at N6
  obtain ⟨p1, p2⟩ := two_at P6
  have e1 : (restB xs (ma, mb) != restB xs (ma, mb)) = false := by simp
  have e2 : (nextB xs != nextB xs) = false := by simp
  have hE : ∀ W, (Op.equalIn 10000 37 (.agg #[.string (nextV xs).1, .string (nextV xs).2]) (.agg #[.string (nextV xs).1, .string (nextV xs).2])).run Try.prog W = .ok true W := fun W => by
    have := eq_mv (nextV xs).1 (nextV xs).2 (nextV xs).1 (nextV xs).2 W
    rwa [mvEq_self] at this
  clear h6 b5a R5a M5a N5a P5 D5a E5a HIR HSR HIN HSN HQ P6
  rcases Bool.eq_false_or_eq_true (nextB xs) with hb | hb
  · have hg := HRN.out hb
    rw [hg] at HNB
    rw [hb] at *
    clear hg hb
    go_wp2_with fail
    refine (HDI.out _ R6).mono ?_
    rintro e w7 ⟨vd, rfl, od, h7⟩
    have b7 := b6.trans (h7.mono b6.size)
    have R7 := R6.below h7
    have M7 := M6.keep h7
    have N7 := N6.keep h7
    have D7 := D6.below h7
    have S7 : RdM w7 vd (dropM xs) := Rd.of_own od
    obtain ⟨x1, x2⟩ := two_at N7
    clear od h7 b6 R6 M6 N6 D6 n1 n2 p1 p2 HDI hE
    go_wp2_with fail
    refine (HNB.out _ _ S7).mono ?_
    rintro e w8 ⟨vq, rfl, oq, h8⟩
    have b8 := b7.trans (h8.mono b7.size)
    have R8 := R7.below h8
    have M8 := M7.keep h8
    have D8 := D7.below h8
    clear oq h8 b7 R7 M7 N7 D7 S7 x1 x2 HNB
    rcases Bool.eq_false_or_eq_true (restB xs (ma, mb)) with hr | hr
    · have hsame := HRS.out hr
      have hval := HRV.out hr
      have hmr : mvalid (restM xs (ma, mb)) = true := by simpa [mvalid] using hval.1
      have hlen : ((restM xs (ma, mb)).length : Int) = (xs.length : Int) - 1 := by omega
      rw [hsame.1] at HC
      rw [hsame.2] at HS
      rw [hmr] at HV
      rw [hr] at *
      obtain ⟨Ar, cr, er, _⟩ := D8.open
      subst er
      obtain ⟨d1, d2⟩ := two_at M8
      have q1 : (((restM xs (ma, mb)).length : Int) == (xs.length : Int) - 1) = true := by rw [beq_iff_eq]; exact hlen
      have hxl : xs.length ≤ 1048576 := by omega
      have HX := Lib.hid (fun o => (Below.refl w8.heap.size w8).alloc (Nat.le_refl _) o)
      have bx := b8.alloc b8.size (.cells #[.string ma, .string mb] 37)
      have Rx := R8.below (HX.out (.cells #[.string ma, .string mb] 37))
      have Dx := D8.below (HX.out (.cells #[.string ma, .string mb] 37))
      have Ox : RdM (w8.alloc (.cells #[.string ma, .string mb] 37)) (.slice (some ⟨w8.heap.size, 0, none⟩) 1 1) [(ma, mb)] := Rd.of_own (World.ownsRow_lit (e := 37) (base := w8.heap.size) (size := 2) w8 #[.string ma, .string mb] 1 (Nat.le_refl _) (by decide) rfl)
      clear hsame hval hmr hlen hr b8 R8 D8 M8
      go_wp2_with fail
      refine (HC.out _ _ Ox _ Dx).mono ?_
      rintro e wa ⟨vc, rfl, oc, ha⟩
      have ba := bx.trans (ha.mono bx.size)
      have Ra := Rx.below ha
      have Da := Dx.below ha
      have Ca : RdM wa vc (compM [(ma, mb)] (restM xs (ma, mb))) := Rd.of_own oc
      clear oc ha bx Rx Dx Ox HC HX
      go_wp2_with fail
      refine (HS.out _ _ Ca Ra).mono ?_
      rintro e wb ⟨rfl, hb⟩
      have bb := ba.trans (hb.mono ba.size)
      have Db := Da.below hb
      clear hb ba Ra Da Ca HS
      go_wp2_with fail
      refine (HV.out _ _ Db).mono ?_
      rintro e wc ⟨rfl, hc2⟩
      have bc := bb.trans (hc2.mono bb.size)
      clear hc2 bb Db HV
      go_wp2
      go_ret
      exact ⟨rfl, bc⟩
    · have hno := HNO.out hr
      rw [hr] at *
      rw [hno] at D8
      obtain ⟨Ar, cr, er, _⟩ := D8.open
      subst er
      clear hno hr HC HS HV HRS HRV HNO D8
      go_wp2
      go_ret
      exact ⟨rfl, b8⟩
  · rw [hb] at *
    clear hb HDI HNB N6
    rcases Bool.eq_false_or_eq_true (restB xs (ma, mb)) with hr | hr
    · have hsame := HRS.out hr
      have hval := HRV.out hr
      have hmr : mvalid (restM xs (ma, mb)) = true := by simpa [mvalid] using hval.1
      have hlen : ((restM xs (ma, mb)).length : Int) = (xs.length : Int) - 1 := by omega
      rw [hsame.1] at HC
      rw [hsame.2] at HS
      rw [hmr] at HV
      rw [hr] at *
      obtain ⟨Ar, cr, er, _⟩ := D6.open
      subst er
      obtain ⟨d1, d2⟩ := two_at M6
      have q1 : (((restM xs (ma, mb)).length : Int) == (xs.length : Int) - 1) = true := by rw [beq_iff_eq]; exact hlen
      have hxl : xs.length ≤ 1048576 := by omega
      have HX := Lib.hid (fun o => (Below.refl w6.heap.size w6).alloc (Nat.le_refl _) o)
      have bx := b6.alloc b6.size (.cells #[.string ma, .string mb] 37)
      have Rx := R6.below (HX.out (.cells #[.string ma, .string mb] 37))
      have Dx := D6.below (HX.out (.cells #[.string ma, .string mb] 37))
      have Ox : RdM (w6.alloc (.cells #[.string ma, .string mb] 37)) (.slice (some ⟨w6.heap.size, 0, none⟩) 1 1) [(ma, mb)] := Rd.of_own (World.ownsRow_lit (e := 37) (base := w6.heap.size) (size := 2) w6 #[.string ma, .string mb] 1 (Nat.le_refl _) (by decide) rfl)
      clear hsame hval hmr hlen hr b6 R6 D6 M6
      go_wp2_with fail
      refine (HC.out _ _ Ox _ Dx).mono ?_
      rintro e wa ⟨vc, rfl, oc, ha⟩
      have ba := bx.trans (ha.mono bx.size)
      have Ra := Rx.below ha
      have Da := Dx.below ha
      have Ca : RdM wa vc (compM [(ma, mb)] (restM xs (ma, mb))) := Rd.of_own oc
      clear oc ha bx Rx Dx Ox HC HX
      go_wp2_with fail
      refine (HS.out _ _ Ca Ra).mono ?_
      rintro e wb ⟨rfl, hb⟩
      have bb := ba.trans (hb.mono ba.size)
      have Db := Da.below hb
      clear hb ba Ra Da Ca HS
      go_wp2_with fail
      refine (HV.out _ _ Db).mono ?_
      rintro e wc ⟨rfl, hc2⟩
      have bc := bb.trans (hc2.mono bb.size)
      clear hc2 bb Db HV
      go_wp2
      go_ret
      exact ⟨rfl, bc⟩
    · have hno := HNO.out hr
      rw [hr] at *
      rw [hno] at D6
      obtain ⟨Ar, cr, er, _⟩ := D6.open
      subst er
      clear hno hr HC HS HV HRS HRV HNO D6
      go_wp2
      go_ret
      exact ⟨rfl, b6⟩

namespace fnRestBehind
open Go.RowKit Go.PM Go.ChangeShapes Go.WideShapes Go.ChangeAt
open Go.ChangeMaps (open_string shut_string)
set_option maxRecDepth 100000 in
theorem lifted (os : Os) (started : os.Started) (H : Type) (enc : TypeId × Value → H) :
    ReturnsInHanded {} Try.checked os 5 .any (Rows.fnRestBehindSpec.pre6 enc Try.prog Try.f5 Rows.fnRestBehindRow.domain false) (Rows.fnRestBehindSpec.post enc Try.prog Try.f5 false true false false) := by
  refine returnsInHanded_of_change (C := Try.checked) own started (by kernel_rfl) Try.func5
    (ChangeSpec.witness6 (enc := enc) (C := Try.checked) false ⟨#[], #[.slice none 0 0], []⟩ 8 (by kernel_rfl) (by kernel_rfl) (by kernel_rfl) (by kernel_rfl)) ?_
  intro W base args ds gs before hval0 hW hcnd _
  have hval : ∀ (j : Nat) t v, Try.f5.params[j]? = some t → args[j]? = some v → Value.okWide Try.prog W .any base t v := hval0
  have hW' := hW
  obtain ⟨p, q, hA0, hV, rfl, hfz, hnd⟩ := hW
  have hA : DataW.TrodAll enc Try.prog W 0 (fun _ => true) true Try.f5.params.toList args.toList ds p := hA0
  rw [Try.params5] at hA hval
  obtain ⟨v0, vs0, d0, ds0, p0, q0, hargs, rfl, rfl, h0, r0⟩ := trodAll_cons hA
  obtain ⟨rfl, rfl, rfl⟩ := trodAll_nil r0
  obtain rfl : args = #[v0] := by cases args; simp_all
  obtain ⟨rfl, rfl⟩ := trodVars_none hV
  have k0 := h0
  have lt0 : ∀ x ∈ p0, x.block < W.heap.size := by obtain ⟨m, hm⟩ := k0; exact DataW.trod_lt m _ _ _ hm
  obtain ⟨a0, len0, cap0, rfl⟩ := okWide_slice Try.underlying30 (hval 0 30 v0 rfl rfl)
  have hx0 : RdB W W.heap.size (.slice a0 len0 cap0) len0 := by obtain ⟨fuel, hf⟩ := h0; exact open_bytes hf
  clear hA0 hval0
  refine (exRestBehind W _ len0 hx0).mono fun e W' ⟨he, bel⟩ => ?_
  subst he
  exact ⟨_, rfl, _, _, _, [], _, [], hW', trodAll_mk1 (shut_bool Try.underlying4 _), (trodAll_cons_mk (Below.trod laidOut (by kernel_rfl) (of_decide_eq_true (by kernel_rfl)) k0 bel lt0) trodAll_mk0), rfl, bel.frame _, fun h => by cases h⟩

theorem over : Rows.fnRestBehindRow.holds Try.pinned (OpenSpec.ofChange Rows.fnRestBehindSpec) :=
  OpenClaim.holds_of_wide 5 Try.f5 rfl rfl rfl rfl rfl rfl rfl ⟨rfl, rfl, rfl, rfl, rfl⟩ rfl rfl rfl rfl rfl (by kernel_rfl) Try.func5 (by kernel_rfl)
    (of_decide_eq_true (by kernel_rfl)) (by unfold Func.isWrapper; first | (rw [if_pos (by decide +kernel)]; kernel_rfl) | (rw [if_neg (by decide +kernel)]; exact ⟨rfl, rfl⟩))
    (fun os started H enc _ => lifted os started H enc)

/-- The statement. -/
theorem proved : Rows.FnRestBehindSaid := over
end fnRestBehind
end Go.Proofs.Ytdhhmphnmllbhaa
