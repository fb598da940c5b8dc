/- Proved: for every input of the form's own reach the law FnMakeDirect answers true and its arguments read afterwards as before; no further condition. -/
import Derived.Test.YtogkodjlbdlgjaaLawFMakeDirectJA
import Derived.Outline
import Derived.Laws.EntriesVeiled
import Derived.Test.YtogkodjlbdlgjaaNames
import Derived.Test.YtogkodjlbdlgjaaSpS2
import Derived.Test.YtogkodjlbdlgjaaNamesIn
import Derived.Test.YtogkodjlbdlgjaaSource
import Derived.BigQuiet
import Derived.Test.YtogkodjlbdlgjaaApp
import Derived.Test.YtogkodjlbdlgjaaHold
import Derived.ChangeKeysEq
import Derived.Test.YtogkodjlbdlgjaaColl
import Derived.Deep.RegionLaw
import Derived.Test.YtogkodjlbdlgjaaDraw3
import Derived.Test.YtogkodjlbdlgjaaDrawL3
import Derived.Test.YtogkodjlbdlgjaaTurn
import Derived.Test.YtogkodjlbdlgjaaHar
import Derived.Test.YtogkodjlbdlgjaaP2
import Derived.Test.YtogkodjlbdlgjaaRows
import Derived.Test.YtogkodjlbdlgjaaLib
import Derived.ProofKit
import Derived.OpenShut
import Derived.ShutString
import Derived.ChangeOld
import Derived.Deep.Slices
import Derived.ChangeSame
import Derived.Carry
import Derived.Test.YtogkodjlbdlgjaaDraw
namespace Go.Proofs.Ytogkodjlbdlgjaa
open Go.RowKit Go.PM

abbrev fnA : Array Value := #[.func (.func 109) #[] #[], .func (.func 110) #[] #[]]
set_option maxRecDepth 100000 in
set_option maxHeartbeats 1600000 in
theorem inOrder_c (xs : List St) (hv : ∀ k (hk : k < xs.length), stOk xs[k] = true) (v : Value) (f : Nat → UInt8) (w : World) (hx : RdS w v xs) :
    Calls Try.prog 67 #[stV f, v] w fun e w' => e = .returned (stV (runS xs xs.length f)) ∧ Below w.heap.size w w' := by
  have HR : ∀ (tmps : Array Value) (W : World) (g : Nat → UInt8) (b : Nat), At W b 80 (stC g) → tmps.getD 4 undef = .pointer (some ⟨b, 0, none⟩) →
      (results Try.f67 tmps).run Try.prog W = .ok (stV g) W := fun tmps W g b hA h4 =>
    results_row1 Try.results67 tmps W _ _ _ h4 hA 11 5 Try.underlying80 (by kernel_rfl)
  obtain ⟨A, cap, rfl, hn, hc, hcell⟩ := hx.open
  have HV := Lib.hid hv
  clear hv
  have HRS := Lib.hid (fun k hk => runS_succ xs k hk f)
  have HZ := Lib.hid (runS_zero xs f)
  go_enter Try.func67, Try.ntmps67
  go_wp2
  have hw0 : ∃ W0 : World, W0 = ((w.alloc (.cells (stC f) 80)).alloc (.cells zSA 80)).alloc (.cells fnA 132) := ⟨_, rfl⟩
  obtain ⟨W0, hW0⟩ := hw0
  have hB0 : Below w.heap.size w W0 := by rw [hW0]; (repeat' (first | (with_reducible exact Below.refl _ _) | (with_reducible assumption) | (with_reducible refine Below.alloc ?_ ?_ _) | (with_reducible refine Below.drew ?_) | (with_reducible refine Below.setCell ?_ ?_ _) | (with_reducible exact Nat.le_refl _) | omega | ((repeat (first | rewrite [World.size_alloc] | rewrite [World.size_setCell] | rewrite [World.size_drew])); omega) | (simp; omega) | (simp; done)))
  have hA0 : At W0 w.heap.size 80 (stC f) := by rw [hW0]; exact ((At.new _ _ _).alloc _).alloc _
  have hA1 : At W0 (w.heap.size + 1) 80 zSA := by
    rw [hW0]; have := At.new (w.alloc (.cells (stC f) 80)) 80 zSA
    rw [World.size_alloc] at this; exact this.alloc _
  have hA2 : At W0 (w.heap.size + 1 + 1) 132 fnA := by
    rw [hW0]; have := At.new ((w.alloc (.cells (stC f) 80)).alloc (.cells zSA 80)) 132 fnA
    rwa [World.size_alloc, World.size_alloc] at this
  rw [← hW0]
  clear hW0
  go_loopw [7, 11] (fun _ i wr => ∃ (k : Nat), k ≤ xs.length ∧ i = .int .i64 k ∧ Below w.heap.size w wr ∧ At wr w.heap.size 80 (stC (runS xs k f)) ∧ At wr (w.heap.size + 1) 80 zSA ∧ At wr (w.heap.size + 1 + 1) 132 fnA) (fun _ i _ => xs.length - (intOf i).toNat)
  case atStart => exact ⟨0, by omega, rfl, hB0, by rw [HZ.out]; exact hA0, hA1, hA2⟩
  case round =>
    clear hB0 hA0 hA1 hA2
    obtain ⟨k, hk, rfl, hb, hA0, hA1, hA2⟩ := hrel
    have hbs := hb.size
    by_cases hlt : k < xs.length
    · obtain ⟨b, off, rfl, hbl, hc1, hc2, hc3⟩ := hcell k hlt
      have hd1 := (hb.cell (p := ⟨b, off + k * 3, none⟩) hbl).trans hc1
      have hd2 := (hb.cell (p := ⟨b, off + k * 3 + 1, none⟩) hbl).trans hc2
      have hd3 := (hb.cell (p := ⟨b, off + k * 3 + 2, none⟩) hbl).trans hc3
      have hok : stOk (xs[k].1, xs[k].2.1, xs[k].2.2) = true := HV.out k hlt
      have hrs : runS xs (k + 1) f = doS (xs[k].1, xs[k].2.1, xs[k].2.2) (runS xs k f) := HRS.out k hlt
      clear hc1 hc2 hc3 hcell
      generalize xs[k].1 = x1 at *
      generalize xs[k].2.1 = x2 at *
      generalize xs[k].2.2 = x3 at *
      generalize runS xs k f = g at *
      have HRK := Lib.hid hrs
      clear hrs
      have l1 := hA1.lt
      have l2 := hA2.lt
      rcases stOk_kind hok with rfl | rfl
      · obtain ⟨o1, o2⟩ := stOk_move hok
        have hcall := fun W => moved_c g 0 x2 x3 o1 o2 W
        have HD : Hid (doS (0, x2, x3) g = updS g (cidx x2) (rdS g x3)) := rfl
        generalize updS g (cidx x2) (rdS g x3) = g2 at *
        clear hok o1 o2
        go_wp2
        obtain ⟨W1, hW1⟩ : ∃ W1 : World, W1 = (wr.alloc (.cells #[.int .i64 0, .string x2, .string x3] 67)).drew := ⟨_, rfl⟩
        have e0 : At W1 w.heap.size 80 (stC g) := by rw [hW1]; exact hA0.alloc _
        have e1 : At W1 (w.heap.size + 1) 80 zSA := by rw [hW1]; exact hA1.alloc _
        have e2 : At W1 (w.heap.size + 1 + 1) 132 fnA := by rw [hW1]; exact hA2.alloc _
        have e3 : At W1 wr.heap.size 67 #[.int .i64 0, .string x2, .string x3] := by rw [hW1]; exact At.new wr _ _
        have e4 : Below w.heap.size w W1 := by rw [hW1]; exact (hb.alloc hbs _).drew
        refine region_tail (C := fun w' => w' = W1) 6 (by kernel_rfl) (by kernel_rfl) hW1.symm ?_
        clear hW1
        simp only [List.take_succ_cons, List.take_zero, List.drop_succ_cons, List.drop_zero]
        clear hA0 hA1 hA2 hb hbs
        have q0 : W1.cell? ⟨wr.heap.size, 0, none⟩ = some (.int .i64 0) := e3.cell 0
        have q1 : W1.cell? ⟨wr.heap.size, 1, none⟩ = some (.string x2) := e3.cell 1
        have q2 : W1.cell? ⟨wr.heap.size, 2, none⟩ = some (.string x3) := e3.cell 2
        have q3 : W1.cell? ⟨w.heap.size + 1 + 1, 0, none⟩ = some (.func (.func 109) #[] #[]) := e2.cell 0
        go_big_quiet_step (fail)
        go_big_quiet_step (fail)
        go_big_quiet_step (fail)
        go_big_quiet_step (fail)
        refine row_step rfl 80 (.tmp 2) rfl w.heap.size 80 (stC g) (by rfl) (by rintro W rfl; exact e0) 11 5 Try.underlying80 (by kernel_rfl) ?_
        simp only [Act.put, List.setIfInBounds_toArray, List.set_cons_succ, List.set_cons_zero]
        go_big_quiet_step (fail)
        refine wpQuiet_nil ?_
        intro w' hw'
        subst hw'
        go_wp2_with fail
        refine (hcall _).mono ?_
        rintro e W2 ⟨rfl, hb2⟩
        have k0 := e0.keep hb2
        have k1 := e1.keep hb2
        have k2 := e2.keep hb2
        have k4 := e4.trans (hb2.mono e4.size)
        have k5 := k4.size
        go_wp2_with (refine st_row rfl 80 (.tmp 2) (.tmp 21) rfl rfl w.heap.size 80 (stC g) (stC g2) k0 (by rfl) (by rfl) (by kernel_rfl) rfl (stC_one _) ?_; intro W5 hA5 hg5)
        go_roundw
        case rel => exact ⟨k + 1, by omega, by go_num, k4.trans (below_grown hg5 k5 (fun g hg => by cases hg; omega)), by rw [HRK.out, HD.out]; exact hA5, k1.grown hg5 (by simp), k2.grown hg5 (by simp; omega)⟩
        case measure => simp [intOf]; omega
      · obtain ⟨o1, o2⟩ := stOk_swap hok
        have hcall := fun W => swapped_c g 1 x2 x3 o1 o2 W
        have HD : Hid (doS (1, x2, x3) g = swS g (cidx x2) (cidx x3)) := rfl
        generalize swS g (cidx x2) (cidx x3) = g2 at *
        clear hok o1 o2
        go_wp2
        obtain ⟨W1, hW1⟩ : ∃ W1 : World, W1 = (wr.alloc (.cells #[.int .i64 1, .string x2, .string x3] 67)).drew := ⟨_, rfl⟩
        have e0 : At W1 w.heap.size 80 (stC g) := by rw [hW1]; exact hA0.alloc _
        have e1 : At W1 (w.heap.size + 1) 80 zSA := by rw [hW1]; exact hA1.alloc _
        have e2 : At W1 (w.heap.size + 1 + 1) 132 fnA := by rw [hW1]; exact hA2.alloc _
        have e3 : At W1 wr.heap.size 67 #[.int .i64 1, .string x2, .string x3] := by rw [hW1]; exact At.new wr _ _
        have e4 : Below w.heap.size w W1 := by rw [hW1]; exact (hb.alloc hbs _).drew
        refine region_tail (C := fun w' => w' = W1) 6 (by kernel_rfl) (by kernel_rfl) hW1.symm ?_
        clear hW1
        simp only [List.take_succ_cons, List.take_zero, List.drop_succ_cons, List.drop_zero]
        clear hA0 hA1 hA2 hb hbs
        have q0 : W1.cell? ⟨wr.heap.size, 0, none⟩ = some (.int .i64 1) := e3.cell 0
        have q1 : W1.cell? ⟨wr.heap.size, 1, none⟩ = some (.string x2) := e3.cell 1
        have q2 : W1.cell? ⟨wr.heap.size, 2, none⟩ = some (.string x3) := e3.cell 2
        have q3 : W1.cell? ⟨w.heap.size + 1 + 1, 1, none⟩ = some (.func (.func 110) #[] #[]) := e2.cell 1
        go_big_quiet_step (fail)
        go_big_quiet_step (fail)
        go_big_quiet_step (fail)
        go_big_quiet_step (fail)
        refine row_step rfl 80 (.tmp 2) rfl w.heap.size 80 (stC g) (by rfl) (by rintro W rfl; exact e0) 11 5 Try.underlying80 (by kernel_rfl) ?_
        simp only [Act.put, List.setIfInBounds_toArray, List.set_cons_succ, List.set_cons_zero]
        go_big_quiet_step (fail)
        refine wpQuiet_nil ?_
        intro w' hw'
        subst hw'
        go_wp2_with fail
        refine (hcall _).mono ?_
        rintro e W2 ⟨rfl, hb2⟩
        have k0 := e0.keep hb2
        have k1 := e1.keep hb2
        have k2 := e2.keep hb2
        have k4 := e4.trans (hb2.mono e4.size)
        have k5 := k4.size
        go_wp2_with (refine st_row rfl 80 (.tmp 2) (.tmp 21) rfl rfl w.heap.size 80 (stC g) (stC g2) k0 (by rfl) (by rfl) (by kernel_rfl) rfl (stC_one _) ?_; intro W5 hA5 hg5)
        go_roundw
        case rel => exact ⟨k + 1, by omega, by go_num, k4.trans (below_grown hg5 k5 (fun g hg => by cases hg; omega)), by rw [HRK.out, HD.out]; exact hA5, k1.grown hg5 (by simp), k2.grown hg5 (by simp; omega)⟩
        case measure => simp [intOf]; omega
    · have hk' : k = xs.length := by omega
      have hA3 : At wr w.heap.size 80 (stC (runS xs xs.length f)) := by rw [← hk']; exact hA0
      clear hA0
      generalize hg : runS xs xs.length f = g at *
      have HG := Lib.hid hg
      clear hg
      go_wp2_with (first | (refine ld_row rfl 80 (.tmp 2) rfl w.heap.size 80 (stC g) hA3 (by rfl) 11 5 Try.underlying80 (by kernel_rfl) ?_) | (refine st_row rfl 80 (.tmp 4) (.tmp 23) rfl rfl (w.heap.size + 1) 80 zSA (stC g) hA1 (by rfl) (by rfl) (by kernel_rfl) rfl (stC_one _) ?_; intro W5 hA5 hg5))
      exact bodyPost_ret (v := stV g) (HR _ _ g (w.heap.size + 1) hA5 rfl) rfl ⟨by rw [HG.out], hb.trans (below_grown hg5 hbs (fun g hg => by cases hg; omega))⟩
end Go.Proofs.Ytogkodjlbdlgjaa
namespace Go.PM
open Go.RowKit
def aoP (t : Nat → ByteArray) (f : Nat → UInt8) (n : Nat) : Nat → UInt8 := fun q => if q < n then rdS f (srcT t q) else f q
theorem aoP_zero (t : Nat → ByteArray) (f : Nat → UInt8) : aoP t f 0 = f := by funext q; simp [aoP]
theorem aoP_nine (t : Nat → ByteArray) (f : Nat → UInt8) : aoP t f 9 = aoS t f := rfl
theorem aoP_succ (t : Nat → ByteArray) (f : Nat → UInt8) (p : Nat) : updS (aoP t f p) p (rdS f (srcT t p)) = aoP t f (p + 1) := by
  funext q
  unfold updS aoP
  by_cases h : q = p
  · subst h; simp
  · by_cases h2 : q < p
    · simp [h, h2, Nat.lt_succ_of_lt h2]
    · have : ¬ q < p + 1 := by omega
      simp [h, h2, this]
end Go.PM
namespace Go.Proofs.Ytogkodjlbdlgjaa
open Go.RowKit Go.PM
attribute [local go_sem] Oper.semAt_some

end Go.Proofs.Ytogkodjlbdlgjaa
namespace Go.PM
open Go.RowKit
theorem src_okC {xs : List Mv} (h : MV xs) : ∀ p, p < 9 → okC (srcT (tabOf xs) p) = true := by
  intro p hp
  rw [srcM_nm h hp]
  unfold srcM
  cases hf : xs.find? (fun m => decide (m.1 = nm p)) with
  | none =>
    show okC (nm p) = true
    unfold okC; rw [(cidx_nm hp).1]; rfl
  | some m =>
    have hm := List.mem_of_find?_eq_some hf
    have h1 := h.1 m hm
    unfold mok at h1; rw [Bool.and_eq_true] at h1
    exact isS_okC h1.2
def aoB (xs : List Mv) (s : ByteArray) : ByteArray := okS (mvalid xs && stateV s) (stB (aoS (tabOf xs) (ofB s)))
def ioB (xs : List St) (s : ByteArray) : ByteArray := okS (svalid xs && stateV s) (stB (runS xs xs.length (ofB s)))
theorem okS_yes (s : ByteArray) : okS true s = s := rfl
theorem okS_no (s : ByteArray) : okS false s = ⟨#[]⟩ := rfl
end Go.PM
namespace Go.Proofs.Ytogkodjlbdlgjaa
open Go.RowKit Go.PM

end Go.Proofs.Ytogkodjlbdlgjaa
namespace Go.Proofs.Ytogkodjlbdlgjaa
open Go.RowKit Go.PM

end Go.Proofs.Ytogkodjlbdlgjaa
namespace Go.PM
def sameAt (xs ys : List Mv) (p : Nat) : Bool := decide (srcM xs (nm p) = srcM ys (nm p))
def sameM (xs ys : List Mv) : Bool := mvalid xs && mvalid ys && (List.range 9).all (sameAt xs ys)
theorem sameM_no {xs ys : List Mv} (k : Nat) (hk : k < 9) (h : sameAt xs ys k = false) : sameM xs ys = false := by
  have : (List.range 9).all (sameAt xs ys) = false := by
    rw [List.all_eq_false]
    exact ⟨k, by simpa using hk, by rw [h]; decide⟩
  rw [sameM, this, Bool.and_false]
theorem sameM_all {xs ys : List Mv} (h : ∀ p, p < 9 → sameAt xs ys p = true) : sameM xs ys = (mvalid xs && mvalid ys) := by
  have : (List.range 9).all (sameAt xs ys) = true := by
    rw [List.all_eq_true]
    intro p hp
    exact h p (by simpa using hp)
  rw [sameM, this, Bool.and_true]
end Go.PM
namespace Go.Proofs.Ytogkodjlbdlgjaa
open Go.RowKit Go.PM

end Go.Proofs.Ytogkodjlbdlgjaa
namespace Go.PM
open Go.RowKit
/-- the moves that give each place its value in a state -/
def effA (g : Nat → UInt8) (p : Nat) : Mv := (nm p, ⟨#[g p]⟩)
def effL (g : Nat → UInt8) (k : Nat) : List Mv := (List.range k).map (effA g)
theorem effL_succ (g : Nat → UInt8) (k : Nat) : effL g (k + 1) = effL g k ++ [effA g k] := by simp [effL, List.range_succ]
theorem effL_len (g : Nat → UInt8) (k : Nat) : (effL g k).length = k := by simp [effL]
theorem effL_at (g : Nat → UInt8) (n k : Nat) (h : k < (effL g n).length) : (effL g n)[k] = effA g k := by simp [effL]
theorem effL_take (g : Nat → UInt8) (n k : Nat) (h : k ≤ n) : (effL g n).take k = effL g k := by
  simp only [effL, ← List.map_take, List.take_range]
  rw [Nat.min_eq_left h]
theorem nms_nodup : ((List.range 9).map nm).Nodup := by decide +kernel
theorem effL_MV (g : Nat → UInt8) : MV (effL g 9) ↔ ∀ p, p < 9 → isS ⟨#[g p]⟩ = true := by
  constructor
  · intro h p hp
    have := h.1 (effA g p) (List.mem_map.2 ⟨p, by simpa using hp, rfl⟩)
    unfold mok at this; rw [Bool.and_eq_true] at this
    exact this.2
  · intro h
    refine ⟨fun m hm => ?_, ?_⟩
    · obtain ⟨p, hp, rfl⟩ := List.mem_map.1 hm
      have hp9 : p < 9 := by simpa using hp
      unfold mok effA
      rw [isP_nm hp9, h p hp9]; rfl
    · have : (effL g 9).map (·.1) = (List.range 9).map nm := by simp [effL, effA]
      rw [this]; exact nms_nodup
def effG (xs : List St) : Nat → UInt8 := runS xs xs.length nmS'
where nmS' : Nat → UInt8 := fun q => cellsL.getD q 0
def effOk (xs : List St) : Bool := svalid xs && mvalid (effL (effG xs) 9)
def effM (xs : List St) : List Mv := if effOk xs then busyM (effL (effG xs) 9) else []
theorem effM_yes {xs : List St} (h : effOk xs = true) : effM xs = busyM (effL (effG xs) 9) := if_pos h
theorem effM_no {xs : List St} (h : effOk xs = false) : effM xs = [] := if_neg (by rw [h]; decide)
theorem effOk_no {xs : List St} (p : Nat) (hp : p < 9) (h : isS ⟨#[effG xs p]⟩ = false) : effOk xs = false := by
  have : mvalid (effL (effG xs) 9) = false := by
    simp only [mvalid, decide_eq_false_iff_not, effL_MV]
    intro h2
    rw [h2 p hp] at h; cases h
  rw [effOk, this, Bool.and_false]
theorem effOk_yes {xs : List St} (hv : svalid xs = true) (h : ∀ p, p < 9 → isS ⟨#[effG xs p]⟩ = true) : effOk xs = true := by
  have : mvalid (effL (effG xs) 9) = true := by
    simp only [mvalid, decide_eq_true_eq, effL_MV]; exact h
  rw [effOk, this, hv]; rfl
theorem busyE_zero (g : Nat → UInt8) : busyM (effL g 0) = [] := rfl
theorem busyE_succ (g : Nat → UInt8) (k : Nat) : busyM (effL g (k + 1)) = if (⟨#[g k]⟩ : ByteArray) = nm k then busyM (effL g k) else busyM (effL g k) ++ [effA g k] := by
  unfold busyM
  rw [effL_succ, List.filter_append]
  by_cases h : (⟨#[g k]⟩ : ByteArray) = nm k
  · simp [effA, h]
  · have : ¬ nm k = (⟨#[g k]⟩ : ByteArray) := fun e => h e.symm
    simp [effA, h, this]
theorem busyE_le (g : Nat → UInt8) (k : Nat) : (busyM (effL g k)).length ≤ k := by
  have := busyM_le (effL g k)
  rw [effL_len] at this; exact this
theorem stB_names : stB (fun q => cellsL.getD q 0) = cellsB := rfl
end Go.PM
namespace Go.Proofs.Ytogkodjlbdlgjaa
open Go.RowKit Go.PM

end Go.Proofs.Ytogkodjlbdlgjaa
namespace Go.PM
open Go.RowKit
theorem srcM_nil (a : ByteArray) : srcM [] a = a := rfl
theorem srcM_cons (m : Mv) (xs : List Mv) (a : ByteArray) : srcM (m :: xs) a = if m.1 = a then m.2 else srcM xs a := by
  unfold srcM
  rw [List.find?_cons]
  by_cases h : m.1 = a <;> simp [h]
theorem srcM_none {xs : List Mv} {a : ByteArray} (h : a ∉ xs.map (·.1)) : srcM xs a = a := by
  unfold srcM
  have : xs.find? (fun m => decide (m.1 = a)) = none := by
    rw [List.find?_eq_none]
    intro m hm e
    exact h (List.mem_map.2 ⟨m, hm, by simpa using e⟩)
  rw [this]; rfl
theorem srcM_busy : ∀ (xs : List Mv) (a : ByteArray), (xs.map (·.1)).Nodup → srcM (busyM xs) a = srcM xs a
  | [], _, _ => rfl
  | m :: xs, a, h => by
    rw [List.map_cons, List.nodup_cons] at h
    have ih := srcM_busy xs a h.2
    by_cases he : m.1 = m.2
    · have e : busyM (m :: xs) = busyM xs := by simp [busyM, he]
      rw [e, ih, srcM_cons]
      by_cases hm : m.1 = a
      · rw [if_pos hm, ← he, hm]
        exact srcM_none (by rw [← hm]; exact h.1)
      · rw [if_neg hm]
    · have e : busyM (m :: xs) = m :: busyM xs := by simp [busyM, he]
      rw [e, srcM_cons, srcM_cons, ih]
theorem busyM_MV {xs : List Mv} (h : MV xs) : MV (busyM xs) :=
  ⟨fun m hm => h.1 m (List.mem_filter.1 hm).1, h.2.sublist (List.Sublist.map _ (List.filter_sublist ..))⟩
theorem find_nm : ∀ p, p < 9 → (List.range 9).find? (fun q => decide (nm q = nm p)) = some p := by
  intro p hp
  match p, hp with
  | 0, _ | 1, _ | 2, _ | 3, _ | 4, _ | 5, _ | 6, _ | 7, _ | 8, _ => decide +kernel
theorem srcM_effL (g : Nat → UInt8) (p : Nat) (hp : p < 9) : srcM (effL g 9) (nm p) = ⟨#[g p]⟩ := by
  unfold srcM effL
  rw [List.find?_map]
  have e : ((fun m : Mv => decide (m.1 = nm p)) ∘ effA g) = fun q => decide (nm q = nm p) := rfl
  rw [e, find_nm p hp]; rfl
def nmT : Nat → UInt8 := fun q => cellsL.getD q 0
theorem rd_name {a : ByteArray} (h : isS a = true) : (⟨#[rdS nmT a]⟩ : ByteArray) = a := by
  rcases Bool.eq_false_or_eq_true (isC a) with hc | hc
  · rw [rdS_cell hc]
    obtain ⟨c, rfl⟩ := one_of_size (isC_size hc)
    have h2 : c ∈ cellsL := by simpa [isC] using hc
    show (⟨#[cellsL.getD (cidx ⟨#[c]⟩) 0]⟩ : ByteArray) = _
    rw [(cidx_one h2).2.2]
  · rw [rdS_digit hc]; exact (fc_one (isS_size h)).symm
theorem srcM_isSr {xs : List Mv} (h : MV xs) (p : Nat) (hp : p < 9) : isS (srcM xs (nm p)) = true := by
  unfold srcM
  cases hf : xs.find? (fun m => decide (m.1 = nm p)) with
  | none => show isS (nm p) = true; unfold isS; rw [isP_nm hp]; rfl
  | some m =>
    have h1 := h.1 m (List.mem_of_find?_eq_some hf)
    unfold mok at h1; rw [Bool.and_eq_true] at h1
    exact h1.2
def irB (xs : List St) (ys : List Mv) : Bool := effOk xs && sameM (effM xs) ys
theorem one_inj {a b : UInt8} : (⟨#[a]⟩ : ByteArray) = ⟨#[b]⟩ ↔ a = b := by
  constructor
  · intro h
    have := congrArg (fun s : ByteArray => s.data.toList) h
    simpa using this
  · intro h; rw [h]
theorem irB_eq (xs : List St) (ys : List Mv) (h1 : svalid xs = true) (h2 : MV ys) :
    ((List.range 11).all fun p => decide ((if p < 9 then effG xs p else nmT p) = aoS (tabOf ys) nmT p)) = irB xs ys := by
  have m2 : mvalid ys = true := by simpa [mvalid] using h2
  have key : ∀ p, p < 9 → (effG xs p = aoS (tabOf ys) nmT p ↔ (⟨#[effG xs p]⟩ : ByteArray) = srcM ys (nm p)) := fun p hp => by
    unfold aoS
    rw [if_pos hp, srcM_nm h2 hp, ← one_inj, rd_name (srcM_isSr h2 p hp)]
  have e11 : ∀ P : Nat → Prop, (∀ p, p < 11 → P p) ↔ ((∀ p, p < 9 → P p) ∧ P 9 ∧ P 10) := fun P => by
    constructor
    · intro h; exact ⟨fun p hp => h p (by omega), h 9 (by omega), h 10 (by omega)⟩
    · rintro ⟨h, h9, h10⟩ p hp
      by_cases hp9 : p < 9
      · exact h p hp9
      · have : p = 9 ∨ p = 10 := by omega
        rcases this with rfl | rfl
        · exact h9
        · exact h10
  rw [Bool.eq_iff_iff, List.all_eq_true]
  have hl : (∀ p ∈ List.range 11, decide ((if p < 9 then effG xs p else nmT p) = aoS (tabOf ys) nmT p) = true) ↔ ∀ p, p < 9 → (⟨#[effG xs p]⟩ : ByteArray) = srcM ys (nm p) := by
    have : (∀ p ∈ List.range 11, decide ((if p < 9 then effG xs p else nmT p) = aoS (tabOf ys) nmT p) = true) ↔ ∀ p, p < 11 → (if p < 9 then effG xs p else nmT p) = aoS (tabOf ys) nmT p := by
      constructor
      · intro h p hp; simpa using h p (by simpa using hp)
      · intro h p hp; simpa using h p (by simpa using hp)
    rw [this, e11]
    constructor
    · rintro ⟨h, _, _⟩ p hp
      have := h p hp
      rw [if_pos hp] at this
      exact (key p hp).1 this
    · intro h
      refine ⟨fun p hp => ?_, ?_, ?_⟩
      · rw [if_pos hp]; exact (key p hp).2 (h p hp)
      · simp [aoS]
      · simp [aoS]
  rw [hl]
  unfold irB
  rcases Bool.eq_false_or_eq_true (effOk xs) with ho | ho
  · have hmv : MV (effL (effG xs) 9) := by
      unfold effOk at ho; rw [Bool.and_eq_true] at ho
      simpa [mvalid] using ho.2
    have m1 : mvalid (effM xs) = true := by rw [effM_yes ho]; simpa [mvalid] using busyM_MV hmv
    rw [ho, Bool.true_and, sameM, m1, m2, Bool.true_and, Bool.true_and, List.all_eq_true]
    have hk : ∀ p, p < 9 → srcM (effM xs) (nm p) = ⟨#[effG xs p]⟩ := fun p hp => by
      rw [effM_yes ho, srcM_busy _ _ hmv.2, srcM_effL _ p hp]
    constructor
    · intro h p hp
      have hp9 : p < 9 := by simpa using hp
      rw [sameAt, hk p hp9]; simpa using h p hp9
    · intro h p hp
      have := h p (by simpa using hp)
      rw [sameAt, hk p hp] at this; simpa using this
  · rw [ho, Bool.false_and]
    constructor
    · intro h
      have hmv : MV (effL (effG xs) 9) := (effL_MV _).2 fun p hp => by rw [h p hp]; exact srcM_isSr h2 p hp
      have : effOk xs = true := by rw [effOk, h1]; simpa [mvalid] using hmv
      rw [this] at ho; cases ho
    · intro h; cases h
end Go.PM
namespace Go.Proofs.Ytogkodjlbdlgjaa
open Go.RowKit Go.PM
attribute [local go_sem] Oper.semAt_some

theorem busyE_sizes (xs : List St) : (∀ m ∈ effM xs, m.1.size ≤ 9223372036854775807 ∧ m.2.size ≤ 9223372036854775807) ∧ (effM xs).length ≤ 9 := by
  rcases Bool.eq_false_or_eq_true (effOk xs) with h | h
  · rw [effM_yes h]
    refine ⟨fun m hm => ?_, busyE_le _ 9⟩
    have h2 := (List.mem_filter.1 hm).1
    obtain ⟨p, _, rfl⟩ := List.mem_map.1 h2
    exact ⟨by show (1 : Nat) ≤ _; omega, by show (1 : Nat) ≤ _; omega⟩
  · rw [effM_no h]
    exact ⟨by simp, by simp⟩

theorem eq_u8 (d : Nat) (a b : UInt8) (W : World) : (Op.equalIn (d + 1) 5 (.int .u8 a.toNat) (.int .u8 b.toNat)).run Try.prog W = .ok (decide (a = b)) W := by
  have : (((a.toNat : Int) == (b.toNat : Int))) = decide (a = b) := by
    rw [Bool.eq_iff_iff, beq_iff_eq, decide_eq_true_eq, ← UInt8.toNat_inj]; omega
  simp [Op.equalIn, go_sem, this]
theorem eqS_items (f g : Nat → UInt8) (W : World) : ∀ is : List Nat, (∀ i ∈ is, i < 11) → (Op.eqItems 9999 5 1 (stC f) (stC g) is).run Try.prog W = .ok (is.all fun p => decide (f p = g p)) W := by
  intro is
  induction is with
  | nil => intro _; rfl
  | cons i is ih =>
    intro h
    have hi := h i (List.mem_cons_self ..)
    have h1 : (part 5 (stC f) (i * 1)).run Try.prog W = .ok (.int .u8 (f i).toNat) W := run_part_plain (P := Try.prog) W (by kernel_rfl) (by rw [Nat.mul_one]; exact stC_at f i hi)
    have h2 : (part 5 (stC g) (i * 1)).run Try.prog W = .ok (.int .u8 (g i).toNat) W := run_part_plain (P := Try.prog) W (by kernel_rfl) (by rw [Nat.mul_one]; exact stC_at g i hi)
    have h3 := eq_u8 9998 (f i) (g i) W
    rw [Op.eqItems, Sem.run_bind, h1, Result.andThen_ok, Sem.run_bind, h2, Result.andThen_ok, Sem.run_bind, h3, Result.andThen_ok, List.all_cons]
    cases hb : decide (f i = g i)
    · rfl
    · rw [if_neg (by decide), ih (fun j hj => h j (List.mem_cons_of_mem _ hj)), Bool.true_and]
theorem eq_st (f g : Nat → UInt8) (W : World) : (Op.equalIn 10000 80 (stV f) (stV g)).run Try.prog W = .ok ((List.range 11).all fun p => decide (f p = g p)) W := by
  have his : (Try.prog.info? 5).isSome = true := by kernel_rfl
  obtain ⟨i, hi⟩ := Option.isSome_iff_exists.1 his
  have hc : Try.prog.cellsOf 5 = 1 := by kernel_rfl
  have h := run_equalIn_array (P := Try.prog) (w := W) 9999 (t := 80) (e := 5) (n := 11) (stC f) (stC g) Try.underlying80 hi
  rw [hc] at h
  exact h.trans (eqS_items f g W _ (fun i hi => by simpa using hi))

end Go.Proofs.Ytogkodjlbdlgjaa
namespace Go.PM
open Go.RowKit
def runM (ms : List Mv) (f : Nat → UInt8) : Nat → UInt8 := ms.foldl (fun g m => updS g (cidx m.1) (rdS g m.2)) f
theorem runM_cons (m : Mv) (ms : List Mv) (f : Nat → UInt8) : runM (m :: ms) f = runM ms (updS f (cidx m.1) (rdS f m.2)) := rfl
theorem runS_stL (ms : List Mv) (f : Nat → UInt8) : runS (stL ms) (stL ms).length f = runM ms f := by
  unfold runS runM stL
  rw [List.take_length, List.foldl_map]
  rfl
theorem spT_cell : isC spT = true ∧ cidx spT = 9 := by decide +kernel
/-- what a waiting move reads -/
def okR (a : ByteArray) : Prop := isP a = true ∨ isD a = true ∨ a = spT
theorem cidx_P {a : ByteArray} (h : isP a = true) : isC a = true ∧ cidx a < 9 ∧ nm (cidx a) = a := by
  have h1 := isP_isC h
  have h2 := pidx_spec h
  rw [h1.2]; exact ⟨h1.1, h2⟩
theorem rdS_ne {a b : ByteArray} (ha : okR a) (hb : isP b = true ∨ b = spT) (hne : a ≠ b) (f : Nat → UInt8) (v : UInt8) : rdS (updS f (cidx b) v) a = rdS f a := by
  have hc : isC a = true → cidx a ≠ cidx b := fun h e => by
    rcases ha with ha | ha | ha
    · rcases hb with hb | hb
      · have h1 := (cidx_P ha).2.2; have h2 := (cidx_P hb).2.2
        rw [e, h2] at h1; exact hne h1.symm
      · have h1 := (cidx_P ha).2.1
        rw [e, hb, spT_cell.2] at h1; omega
    · rw [isD_notC ha] at h; cases h
    · rcases hb with hb | hb
      · have h2 := (cidx_P hb).2.1
        rw [← e, ha, spT_cell.2] at h2; omega
      · exact hne (ha.trans hb.symm)
  unfold rdS
  rcases Bool.eq_false_or_eq_true (isC a) with h | h
  · rw [if_pos h, if_pos h, updS, if_neg (hc h)]
  · rw [if_neg (by rw [h]; decide), if_neg (by rw [h]; decide)]
theorem rdS_same {b : ByteArray} (hb : isP b = true ∨ b = spT) (f : Nat → UInt8) (v : UInt8) : rdS (updS f (cidx b) v) b = v := by
  have : isC b = true := by
    rcases hb with hb | hb
    · exact (cidx_P hb).1
    · rw [hb]; exact spT_cell.1
  rw [rdS_cell this, updS, if_pos rfl]
/-- each waiting move reads what its place is to get, and the other places have it -/
structure Due (T : Nat → UInt8) (ws : List Mv) (f : Nat → UInt8) : Prop where
  rd : ∀ m ∈ ws, rdS f m.2 = T (cidx m.1)
  has : ∀ p, p < 9 → nm p ∉ ws.map (·.1) → f p = T p
theorem Due.some_ {T : Nat → UInt8} {ws : List Mv} {f : Nat → UInt8} (h : Due T ws f) (hw : Wt ws) {i : Nat} (hi : i < ws.length) (hf : rdN ws ws[i].1 = 0) :
    Due T (redM ws[i] (ws.eraseIdx i)) (updS f (cidx ws[i].1) (rdS f ws[i].2)) := by
  have hm := List.getElem_mem hi
  have hp := hw.to_ _ hm
  have hz := rdN_zero.1 hf
  have key : ∀ x ∈ ws.eraseIdx i, rdS (updS f (cidx ws[i].1) (rdS f ws[i].2)) x.2 = T (cidx x.1) := fun x hx => by
    have hx1 := erase_mem hx
    rw [rdS_ne (hw.from_ x hx1) (.inl hp) (hz x hx1)]
    exact h.rd x hx1
  refine ⟨fun m' hm' => ?_, fun p hp9 hn => ?_⟩
  · unfold redM at hm'
    split at hm'
    · exact key m' hm'
    · obtain ⟨x, hx, e1, (⟨e2, e3⟩ | ⟨e2, e3⟩)⟩ := instM_mem hm'
      · rw [e3, rdS_same (.inl hp), e1, ← e2]
        exact h.rd x (erase_mem hx)
      · rw [e3]; exact key x hx
  · rw [redM_keys] at hn
    by_cases e : nm p = ws[i].1
    · have : cidx ws[i].1 = p := by rw [← e, (cidx_nm hp9).2]
      rw [this, updS, if_pos rfl, h.rd _ hm, this]
    · rw [updS, if_neg]
      · refine h.has p hp9 fun hk => ?_
        obtain ⟨x, hx, ex⟩ := List.mem_map.1 hk
        rcases erase_or hi hx with h1 | h1
        · exact e (by rw [← ex, h1])
        · exact hn (List.mem_map.2 ⟨x, h1, ex⟩)
      · intro e2
        exact e (by rw [e2]; exact (cidx_P hp).2.2)
theorem Due.none_ {T : Nat → UInt8} {ws : List Mv} {f : Nat → UInt8} (h : Due T ws f) (hw : Wt ws) (h0 : 0 < ws.length) (hn : aheadI ws = none) :
    Due T (redM (spT, ws[0].1) ws) (updS f (cidx spT) (rdS f ws[0].1)) := by
  obtain ⟨_, _, f3⟩ := hw.full hn
  have hz := rdN_zero.1 f3
  have hp := isP_cases (hw.to_ _ (List.getElem_mem h0))
  refine ⟨fun m' hm' => ?_, fun p hp9 hk => ?_⟩
  · unfold redM at hm'
    rw [if_neg (by show ¬ isD ws[0].1 = true; rw [hp.1]; decide)] at hm'
    obtain ⟨x, hx, e1, (⟨e2, e3⟩ | ⟨e2, e3⟩)⟩ := instM_mem hm'
    · rw [e3, rdS_same (.inr rfl), e1, ← h.rd x hx, e2]
    · rw [e3, rdS_ne (hw.from_ x hx) (.inr rfl) (hz x hx)]
      exact h.rd x hx
  · rw [redM_keys] at hk
    rw [updS, spT_cell.2, if_neg (by omega)]
    exact h.has p hp9 hk
theorem ordF_due {T : Nat → UInt8} : ∀ (n : Nat) (ws : List Mv) (f : Nat → UInt8), Wt ws → muW ws ≤ n → Due T ws f → ∀ p, p < 9 → runM (ordF n ws) f p = T p := by
  intro n
  induction n with
  | zero =>
    intro ws f _ hmu h p hp
    have : ws = [] := List.length_eq_zero_iff.1 (by unfold muW at hmu; omega)
    subst this
    exact h.has p hp (by simp)
  | succ n ih =>
    intro ws f hw hmu h p hp
    by_cases h0 : 0 < ws.length
    · cases ha : aheadI ws with
      | some i =>
        obtain ⟨hi, hf⟩ := aheadI_some ha
        rw [ordF_some hi ha, runM_cons]
        exact ih _ _ (hw.some_ hi hf) (by have := muW_some hi ws[i]; omega) (h.some_ hw hi hf) p hp
      | none =>
        rw [ordF_none h0 ha, runM_cons]
        exact ih _ _ (hw.none_ h0 ha).1 (by have := muW_none hw h0 ha; omega) (h.none_ hw h0 ha) p hp
    · have : ws = [] := List.length_eq_zero_iff.1 (by omega)
      subst this
      rw [ordF_nil]
      exact h.has p hp (by simp)
theorem ordF_ok : ∀ (n : Nat) (ws : List Mv), Wt ws → ∀ m ∈ ordF n ws, (isP m.1 = true ∨ m.1 = spT) ∧ okR m.2 := by
  intro n
  induction n with
  | zero => intro ws _ m hm; cases hm
  | succ n ih =>
    intro ws hw m hm
    by_cases h0 : 0 < ws.length
    · cases ha : aheadI ws with
      | some i =>
        obtain ⟨hi, hf⟩ := aheadI_some ha
        rw [ordF_some hi ha, List.mem_cons] at hm
        rcases hm with rfl | hm
        · exact ⟨.inl (hw.to_ _ (List.getElem_mem hi)), hw.from_ _ (List.getElem_mem hi)⟩
        · exact ih _ (hw.some_ hi hf) m hm
      | none =>
        rw [ordF_none h0 ha, List.mem_cons] at hm
        rcases hm with rfl | hm
        · exact ⟨.inr rfl, .inl (hw.to_ _ (List.getElem_mem h0))⟩
        · exact ih _ (hw.none_ h0 ha).1 m hm
    · have : ws = [] := List.length_eq_zero_iff.1 (by omega)
      subst this
      rw [ordF_nil] at hm; cases hm
theorem stOk_M {m : Mv} (h1 : isP m.1 = true ∨ m.1 = spT) (h2 : okR m.2) : stOk (stpM m) = true := by
  have a1 : isC m.1 = true := by
    rcases h1 with h | h
    · exact (cidx_P h).1
    · rw [h]; exact spT_cell.1
  have a2 : (isC m.2 || isD m.2) = true := by
    rcases h2 with h | h | h
    · rw [(cidx_P h).1]; rfl
    · rw [h, Bool.or_true]
    · rw [h]; decide +kernel
  unfold stOk stpM
  simp only [a1, a2]
  rfl
theorem svalid_stL {ms : List Mv} (hl : ms.length ≤ 60) (h : ∀ m ∈ ms, (isP m.1 = true ∨ m.1 = spT) ∧ okR m.2) : svalid (stL ms) = true := by
  unfold svalid
  rw [Bool.and_eq_true, decide_eq_true_eq, List.all_eq_true]
  refine ⟨by unfold stL; rw [List.length_map]; exact hl, fun x hx => ?_⟩
  obtain ⟨m, hm, rfl⟩ := List.mem_map.1 hx
  exact stOk_M (h m hm).1 (h m hm).2
/-- steps of moves that give each place its value are right -/
theorem right_of_run {ms xs : List Mv} (hv : svalid (stL ms) = true) (hx : MV xs) (h : ∀ p, p < 9 → runM ms nmT p = rdS nmT (srcM xs (nm p))) : irB (stL ms) xs = true := by
  rw [← irB_eq (stL ms) xs hv hx, List.all_eq_true]
  intro p hp
  rw [decide_eq_true_eq]
  by_cases h9 : p < 9
  · rw [if_pos h9, aoS, if_pos h9, srcM_nm hx h9]
    have := h p h9
    rw [← runS_stL] at this
    exact this
  · rw [if_neg h9, aoS, if_neg h9]
theorem busy_due {xs : List Mv} (_hx : MV xs) : Due (fun p => rdS nmT (srcM xs (nm p))) (busyF xs 9) nmT := by
  have hl : busyF xs 9 = lsF (fun p => srcM xs (nm p)) 9 := rfl
  refine ⟨fun m hm => ?_, fun p hp hn => ?_⟩
  · rw [hl] at hm
    obtain ⟨p, hp, _, rfl⟩ := lsF_mem hm
    show _ = rdS nmT (srcM xs (nm (cidx (nm p))))
    rw [(cidx_nm hp).2]
  · have : srcM xs (nm p) = nm p := by
      refine Classical.not_not.1 fun hne => hn ?_
      rw [hl]
      exact List.mem_map.2 ⟨(nm p, srcM xs (nm p)), List.mem_map.2 ⟨p, List.mem_filter.2 ⟨by simpa using hp, by simpa [lsH] using hne⟩, rfl⟩, rfl⟩
    show nmT p = rdS nmT (srcM xs (nm p))
    rw [this, rdS_nm nmT hp]
theorem busy_mu {xs : List Mv} : muW (busyF xs 9) ≤ 19 := by
  have := busyF_len xs 9
  unfold muW
  split <;> omega
theorem ordM_yes {xs : List Mv} (h : MV xs) : ordM xs = ordF 19 (busyF xs 9) := if_pos (by simpa [mvalid] using h)
theorem ordM_valid {xs : List Mv} (h : MV xs) : svalid (stL (ordM xs)) = true := by
  rw [ordM_yes h]
  exact svalid_stL (by have := ordF_len 19 (busyF xs 9); omega) (ordF_ok 19 _ (busyF_Wt h))
/-- the steps of an order do the moves -/
theorem ordM_right {xs : List Mv} (h : MV xs) : irB (stL (ordM xs)) xs = true := by
  refine right_of_run (ordM_valid h) h fun p hp => ?_
  rw [ordM_yes h]
  exact ordF_due 19 _ nmT (busyF_Wt h) busy_mu (busy_due h) p hp
end Go.PM
namespace Go.PD
open Go.PM Go.RowKit Go.Lib
theorem ordM_ok {xs : List Mv} (h : MV xs) : ∀ m ∈ ordM xs, (isP m.1 = true ∨ m.1 = spT) ∧ okR m.2 := by
  rw [ordM_yes h]; exact ordF_ok _ _ (busyF_Wt h)
theorem u_not {a : ByteArray} (h : okR a) : a ≠ spU := by
  intro e; subst e
  rcases h with h | h | h
  · revert h; decide
  · revert h; decide
  · revert h; decide
theorem ord_md {xs : List Mv} (h : mvalid xs = true) : mdB (stL (ordM xs)) = true := by
  have hx : MV xs := by simpa [mvalid] using h
  have hv := ordM_valid hx
  have hok := ordM_ok hx
  have hl : (ordM xs).length ≤ 19 := by rw [ordM_yes hx]; exact ordF_len _ _
  have hb : ∀ x ∈ stL (ordM xs), badX x = false := by
    intro x hxm
    unfold stL at hxm
    obtain ⟨m, hm, rfl⟩ := List.mem_map.1 hxm
    obtain ⟨h1, h2⟩ := hok m hm
    have e1 : m.1 ≠ spU := by
      rcases h1 with h1 | h1
      · exact u_not (.inl h1)
      · exact u_not (.inr (.inr h1))
    have e2 : m.2 ≠ spU := u_not h2
    unfold badX swF stpM
    simp [e1, e2]
  rw [md_good hb, hv, mkD_valid hv, Bool.true_and, decide_eq_true_eq]
  have := (mkD_len (stL (ordM xs))).2
  have e : (stL (ordM xs)).length = (ordM xs).length := by simp [stL]
  omega
def odS (xs : List Mv) : List St := if mvalid xs then mkD (stL (ordM xs)) else []
def cdI (xs : List Mv) : Int := if mvalid xs then ((odS xs).length : Int) else -1
theorem odS_yes {xs : List Mv} (h : mvalid xs = true) : odS xs = mkD (stL (ordM xs)) := if_pos h
theorem odS_no {xs : List Mv} (h : mvalid xs = false) : odS xs = [] := by unfold odS; rw [h]; rfl
theorem cdI_yes {xs : List Mv} (h : mvalid xs = true) : cdI xs = ((odS xs).length : Int) := if_pos h
theorem cdI_no {xs : List Mv} (h : mvalid xs = false) : cdI xs = -1 := by unfold cdI; rw [h]; rfl
theorem odS_len (xs : List Mv) : (odS xs).length ≤ 38 := by
  unfold odS
  split
  · next h =>
    have hx : MV xs := by simpa [mvalid] using h
    have hl : (ordM xs).length ≤ 19 := by rw [ordM_yes hx]; exact ordF_len _ _
    have := (mkD_len (stL (ordM xs))).2
    have e : (stL (ordM xs)).length = (ordM xs).length := by simp [stL]
    omega
  · simp
theorem od_md {xs : List Mv} (h : mvalid xs = true) : mdS (stL (ordM xs)) = odS xs := by rw [mdS_yes (ord_md h), odS_yes h]
end Go.PD
namespace Go.Proofs.Ytogkodjlbdlgjaa
open Go.RowKit Go.PM Go.PD Go.Lib

set_option maxRecDepth 100000 in
set_option maxHeartbeats 1600000 in
theorem imOrderDirect_c (xs : List Mv) (v : Value) (w : World) (hx : RdM w v xs) :
    Calls Try.prog 46 #[v] w fun e w' => ∃ v', e = .returned (.tuple #[v', .bool (mvalid xs)]) ∧ w'.ownsRow w.heap.size 67 3 v' (odS xs).length (scells (odS xs)) ∧ Below w.heap.size w w' := by
  have HO := Lib.hid (imOrderMoves_c xs v w hx)
  rcases Bool.eq_false_or_eq_true (mvalid xs) with h1 | h1
  · have HM := Lib.hid (ord_md h1)
    have HE := Lib.hid (od_md h1)
    have HL : Hid ((stL (ordM xs)).length = (ordM xs).length) := by show _ = _; simp [stL]
    have H1 := Lib.hid h1
    clear h1
    go_enter Try.func46, Try.ntmps46
    go_wp2_with fail
    refine HO.out.mono ?_
    rintro e w1 ⟨v1, rfl, ho, hb1⟩
    rw [H1.out]
    rw [← HL.out] at ho
    have hx1 : RdS w1 v1 (stL (ordM xs)) := Rd.of_own ho
    have HMD := Lib.hid (imMakeDirect_c (stL (ordM xs)) v1 w1 hx1)
    rw [HM.out, HE.out] at HMD
    have hs1 := hb1.size
    clear ho hx1
    go_wp2_with fail
    refine HMD.out.mono ?_
    rintro e w2 ⟨v2, rfl, ho2, hb2⟩
    have ho3 := own_more ho2 hs1
    have hb3 := hb1.trans (hb2.mono hs1)
    clear HMD ho2 hb2
    go_wp2
    go_ret2
    exact ⟨_, by rw [H1.out]; rfl, ho3, hb3⟩
  · have HE := Lib.hid (odS_no h1)
    have H1 := Lib.hid h1
    clear h1
    go_enter Try.func46, Try.ntmps46
    go_wp2_with fail
    refine HO.out.mono ?_
    rintro e w1 ⟨v1, rfl, ho, hb1⟩
    rw [H1.out]
    clear ho
    go_wp2
    go_ret2
    exact ⟨_, by rw [H1.out]; rfl, by rw [HE.out]; exact ⟨rfl, .inl ⟨rfl, rfl⟩⟩, hb1⟩
set_option maxHeartbeats 800000 in
theorem imCountDirect_c (xs : List Mv) (v : Value) (w : World) (hx : RdM w v xs) :
    Calls Try.prog 50 #[v] w fun e w' => e = .returned (.int .i64 (cdI xs)) ∧ Below w.heap.size w w' := by
  have HO := Lib.hid (imOrderDirect_c xs v w hx)
  have HY := Lib.hid (fun h => cdI_yes (xs := xs) h)
  have HN := Lib.hid (fun h => cdI_no (xs := xs) h)
  rcases Bool.eq_false_or_eq_true (mvalid xs) with h1 | h1
  all_goals
    have H1 := Lib.hid h1
    clear h1
    go_enter Try.func50, Try.ntmps50
    go_wp2_with fail
    refine HO.out.mono ?_
    rintro e w1 ⟨v1, rfl, ho, hb1⟩
    obtain ⟨A, cap, rfl, _⟩ := Rd.of_own ho
    rw [H1.out]
    clear ho
    go_wp2
    go_ret
    exact ⟨by first | (rw [HY.out H1.out]; rfl) | (rw [HN.out H1.out]; rfl), hb1⟩
end Go.Proofs.Ytogkodjlbdlgjaa
namespace Go.PM
open Go.RowKit
theorem rdN_take (xs : List Mv) (k : Nat) (hk : k < xs.length) (a : ByteArray) : rdN (xs.take (k + 1)) a = rdN (xs.take k) a + if xs[k].2 = a then 1 else 0 := by
  rw [take_snoc xs k hk]
  unfold rdN
  rw [List.map_append, List.count_append, List.map_cons, List.map_nil, List.count_cons]
  simp
theorem instM_take (a b : ByteArray) (xs : List Mv) (k : Nat) (hk : k < xs.length) : instM a b (xs.take (k + 1)) = instM a b (xs.take k) ++ [(xs[k].1, if xs[k].2 = a then b else xs[k].2)] := by
  rw [take_snoc xs k hk]
  unfold instM
  rw [List.map_append, List.map_cons, List.map_nil]
  by_cases h : xs[k].2 = a
  · rw [if_pos h, if_pos h]
  · rw [if_neg h, if_neg h]
def readB (xs : List Mv) (a : ByteArray) : Bool := decide (rdN xs a ≠ 0)
theorem readB_at {xs : List Mv} {k : Nat} (hk : k < xs.length) {a : ByteArray} (h : xs[k].2 = a) : readB xs a = true := by
  unfold readB
  rw [decide_eq_true_eq]
  intro e
  exact rdN_zero.1 e _ (List.getElem_mem hk) h
theorem readB_no {xs : List Mv} {a : ByteArray} (h : rdN xs a = 0) : readB xs a = false := by
  unfold readB; rw [decide_eq_false_iff_not]; exact fun e => e h
end Go.PM
namespace Go.Proofs.Ytogkodjlbdlgjaa
open Go.RowKit Go.PM
attribute [local go_sem] Oper.semAt_some

set_option maxRecDepth 100000 in
set_option maxHeartbeats 800000 in
theorem l5Read_c (xs : List Mv) (v : Value) (a : ByteArray) (w : World) (hx : RdM w v xs) :
    Calls Try.prog 154 #[v, .string a] w fun e w' => e = .returned (.bool (readB xs a)) ∧ Below w.heap.size w w' := by
  obtain ⟨A, cap, rfl, hn, hc, hcell⟩ := hx.open
  have HRN := Lib.hid (readB_no (xs := xs) (a := a))
  go_enter Try.func154, Try.ntmps154
  go_wp2
  go_loopw [6, 9] (fun _ i wr => ∃ (k : Nat), k ≤ xs.length ∧ i = .int .i64 k ∧ Hid (rdN (xs.take k) a = 0) ∧ Below w.heap.size w wr) (fun _ i _ => xs.length - (intOf i).toNat)
  case atStart => exact ⟨0, by omega, rfl, by show _ = _; simp [rdN], Below.refl _ _⟩
  case round =>
    obtain ⟨k, hk, rfl, hm, hb⟩ := hrel
    have hbs := hb.size
    by_cases hlt : k < xs.length
    · obtain ⟨b, off, rfl, hbl, hc1, hc2⟩ := hcell k hlt
      have hd1 := (hb.cell (p := ⟨b, off + k * 2, none⟩) hbl).trans hc1
      have hd2 := (hb.cell (p := ⟨b, off + k * 2 + 1, none⟩) hbl).trans hc2
      clear hc1 hc2 hcell
      have HR := Lib.hid (rdN_take xs k hlt a)
      have HY := Lib.hid (readB_at (xs := xs) (a := a) hlt)
      generalize xs[k].1 = x1 at *
      generalize xs[k].2 = x2 at *
      go_wp2
      · have h : (x2.toList == a.toList) = true := by assumption
        rw [beq_str, decide_eq_true_eq] at h
        go_ret
        exact ⟨by rw [HY.out h]; rfl, by (repeat' (first | (with_reducible exact Below.refl _ _) | (with_reducible assumption) | (with_reducible refine Below.alloc ?_ ?_ _) | (with_reducible refine Below.drew ?_) | (with_reducible refine Below.setCell ?_ ?_ _) | (with_reducible exact Nat.le_refl _) | omega | ((repeat (first | rewrite [World.size_alloc] | rewrite [World.size_setCell] | rewrite [World.size_drew])); omega) | (simp; omega) | (simp; done)))⟩
      · have h : (x2.toList == a.toList) = false := by assumption
        rw [beq_str, decide_eq_false_iff_not] at h
        go_roundw
        case rel => exact ⟨k + 1, by omega, by go_num, by show _ = _; rw [HR.out, hm.out, if_neg h], by (repeat' (first | (with_reducible exact Below.refl _ _) | (with_reducible assumption) | (with_reducible refine Below.alloc ?_ ?_ _) | (with_reducible refine Below.drew ?_) | (with_reducible refine Below.setCell ?_ ?_ _) | (with_reducible exact Nat.le_refl _) | omega | ((repeat (first | rewrite [World.size_alloc] | rewrite [World.size_setCell] | rewrite [World.size_drew])); omega) | (simp; omega) | (simp; done)))⟩
        case measure => simp [intOf]; omega
    · have hk' : k = xs.length := by omega
      have h1 := hm.out
      rw [hk', List.take_of_length_le (Nat.le_refl _)] at h1
      have HF := Lib.hid (HRN.out h1)
      clear h1 hk'
      go_wp2
      go_ret
      exact ⟨by rw [HF.out]; rfl, hb⟩
set_option maxRecDepth 100000 in
set_option maxHeartbeats 1600000 in
theorem l5Instead_c (xs : List Mv) (v : Value) (a c : ByteArray) (w : World) (hx : RdM w v xs) (hn' : xs.length ≤ 1048575) :
    Calls Try.prog 135 #[v, .string a, .string c] w fun e w' => ∃ v', e = .returned v' ∧ w'.ownsRow w.heap.size 65 2 v' (instM a c xs).length (mcells (instM a c xs)) ∧ Below w.heap.size w w' := by
  obtain ⟨A, cap, rfl, hn, hc, hcell⟩ := hx.open
  have hE := World.ownsRow_lit (e := 65) (base := w.heap.size) (size := 2) w #[] 0 (Nat.le_refl _) (Nat.zero_le _) rfl
  have HL := Lib.hid (fun k => instM_len a c (xs.take k))
  go_enter Try.func135, Try.ntmps135
  go_wp2
  go_loopw [7, 9, 13] (fun o _ i wr => ∃ (k : Nat), k ≤ xs.length ∧ i = .int .i64 k ∧ wr.ownsRow w.heap.size 65 2 o (instM a c (xs.take k)).length (mcells (instM a c (xs.take k))) ∧ Below w.heap.size w wr) (fun _ _ i _ => xs.length - (intOf i).toNat)
  case atStart => exact ⟨0, by omega, rfl, hE, by (repeat' (first | (with_reducible exact Below.refl _ _) | (with_reducible assumption) | (with_reducible refine Below.alloc ?_ ?_ _) | (with_reducible refine Below.drew ?_) | (with_reducible refine Below.setCell ?_ ?_ _) | (with_reducible exact Nat.le_refl _) | omega | ((repeat (first | rewrite [World.size_alloc] | rewrite [World.size_setCell] | rewrite [World.size_drew])); omega) | (simp; omega) | (simp; done)))⟩
  case round =>
    obtain ⟨k, hk, rfl, ho, hb⟩ := hrel
    have hbs := hb.size
    by_cases hlt : k < xs.length
    · obtain ⟨b, off, rfl, hbl, hc1, hc2⟩ := hcell k hlt
      have hd1 := (hb.cell (p := ⟨b, off + k * 2, none⟩) hbl).trans hc1
      have hd2 := (hb.cell (p := ⟨b, off + k * 2 + 1, none⟩) hbl).trans hc2
      have hst := instM_take a c xs k hlt
      have hle := HL.out k
      rw [List.length_take] at hle
      clear hc1 hc2 hcell
      generalize xs[k].1 = x1 at *
      generalize xs[k].2 = x2 at *
      have HST := Lib.hid hst
      clear hst
      generalize instM a c (xs.take k) = ys at *
      by_cases hxa : x2 = a
      · have hbq : (x2.toList == a.toList) = true := by rw [beq_str]; simpa using hxa
        have hs := HST.out
        rw [if_pos hxa] at hs
        have HS := Lib.hid hs
        clear hs hxa
        have hnw := two_new (wr.alloc (.cells #[.string x1, .string c] 65)) (.string x1) (.string c) 65
        rw [World.size_alloc] at hnw
        go_wp2_with (at_builtin; refine held ?_)
        unfold Held
        refine app_mv rfl (.tmp 23) (.tmp 25) rfl w.heap.size u7 ys (x1, c) ⟨wr.heap.size + 1, 0, none⟩ 1 (by rfl) (by rfl) (own_keep (own_keep ho ((Below.refl _ _).alloc (Nat.le_refl _) _)) ((Below.refl _ _).alloc (Nat.le_refl _) _)) hnw (by omega) (by simp; omega) ?_
        intro v' w3 hown3 hgrow3
        have hb3 := below_grown hgrow3 (B := w.heap.size) (by simp; omega) (own_block_ge ho)
        have hbx : Below w.heap.size w ((wr.alloc (.cells #[.string x1, .string c] 65)).alloc (.cells #[.string x1, .string c] 65)) := by (repeat' (first | (with_reducible exact Below.refl _ _) | (with_reducible assumption) | (with_reducible refine Below.alloc ?_ ?_ _) | (with_reducible refine Below.drew ?_) | (with_reducible refine Below.setCell ?_ ?_ _) | (with_reducible exact Nat.le_refl _) | omega | ((repeat (first | rewrite [World.size_alloc] | rewrite [World.size_setCell] | rewrite [World.size_drew])); omega) | (simp; omega) | (simp; done)))
        have hb4 := hbx.trans hb3
        rw [← HS.out] at hown3
        clear hnw hgrow3 hb3 hbx
        go_wp2
        go_roundw
        case rel => exact ⟨k + 1, by omega, by go_num, hown3, hb4⟩
        case measure => simp [intOf]; omega
      · have hbq : (x2.toList == a.toList) = false := by rw [beq_str]; simpa using hxa
        have hs := HST.out
        rw [if_neg hxa] at hs
        have HS := Lib.hid hs
        clear hs hxa
        have hnw := two_new (wr.alloc (.cells #[.string x1, .string x2] 65)) (.string x1) (.string x2) 65
        rw [World.size_alloc] at hnw
        go_wp2_with (at_builtin; refine held ?_)
        unfold Held
        refine app_mv rfl (.tmp 23) (.tmp 25) rfl w.heap.size u7 ys (x1, x2) ⟨wr.heap.size + 1, 0, none⟩ 1 (by rfl) (by rfl) (own_keep (own_keep ho ((Below.refl _ _).alloc (Nat.le_refl _) _)) ((Below.refl _ _).alloc (Nat.le_refl _) _)) hnw (by omega) (by simp; omega) ?_
        intro v' w3 hown3 hgrow3
        have hb3 := below_grown hgrow3 (B := w.heap.size) (by simp; omega) (own_block_ge ho)
        have hbx : Below w.heap.size w ((wr.alloc (.cells #[.string x1, .string x2] 65)).alloc (.cells #[.string x1, .string x2] 65)) := by (repeat' (first | (with_reducible exact Below.refl _ _) | (with_reducible assumption) | (with_reducible refine Below.alloc ?_ ?_ _) | (with_reducible refine Below.drew ?_) | (with_reducible refine Below.setCell ?_ ?_ _) | (with_reducible exact Nat.le_refl _) | omega | ((repeat (first | rewrite [World.size_alloc] | rewrite [World.size_setCell] | rewrite [World.size_drew])); omega) | (simp; omega) | (simp; done)))
        have hb4 := hbx.trans hb3
        rw [← HS.out] at hown3
        clear hnw hgrow3 hb3 hbx
        go_wp2
        go_roundw
        case rel => exact ⟨k + 1, by omega, by go_num, hown3, hb4⟩
        case measure => simp [intOf]; omega
    · have hk' : k = xs.length := by omega
      have ho2 := ho
      rw [hk', List.take_of_length_le (Nat.le_refl _)] at ho2
      clear hk' ho
      go_wp2
      go_ret
      exact ⟨_, rfl, ho2, hb⟩
end Go.Proofs.Ytogkodjlbdlgjaa
namespace Go.PM
open Go.RowKit
theorem add_off (b off j : Nat) : (⟨b, off, none⟩ : Addr).add j = ⟨b, off + j, none⟩ := by
  unfold Addr.add; split <;> simp_all
theorem own_lit1 (w : World) (e : TypeId) (base B : Nat) (hB : w.heap.size = B) (hb : base ≤ B) : (w.alloc (.cells #[] e)).drew.ownsRow base e 2 (.slice (some ⟨B, 0, none⟩) 0 0) ([] : List Mv).length (mcells []) := by
  subst hB
  exact World.ownsRow_lit (e := e) (base := base) (size := 2) w #[] 0 hb (Nat.zero_le _) rfl
end Go.PM
namespace Go.Proofs.Ytogkodjlbdlgjaa
open Go.RowKit Go.PM
attribute [local go_sem] Oper.semAt_some

/-- append of moves that lie somewhere, as a step of a region that draws -/
theorem step_appM {ops : Array Oper} {o : Oper} {a : Act} {w : World} {K : Act → World → Prop} {Q : Exit → Act → World → Prop} {E : Prop} (hgd : o.guard = none) (s x : Operand)
    (ho : o.op = .call { callee := .builtin .append, args := #[s, x], argTypes := #[29, 29] })
    (base : Nat) (v : Value) (ys zs : List Mv) (ad : Addr) (c : Nat) (hs : a.eval s = v) (hx : a.eval x = .slice (some ad) zs.length c)
    (hown : w.ownsRow base 65 2 v ys.length (mcells ys)) (hnew : ∀ j u, (mcells zs)[j]? = some u → w.cell? (ad.add j) = some u)
    (hlen : ys.length + zs.length ≤ 1048576) (hbase : base ≤ w.heap.size)
    (h : ∀ v' w', Hid (w'.ownsRow base 65 2 v' (ys ++ zs).length (mcells (ys ++ zs))) → w.grownBy w' v.ownBlock → K (a.put o.dst v') w') :
    if Region.wanted o (yielded ops a.tmps) = true then Oper.wp Try.prog o a w K Q else E := by
  have hw : Region.wanted o (yielded ops a.tmps) = true := by simp [Region.wanted, hgd]
  rw [if_pos hw]
  obtain ⟨i0, hi0, hz0, hz1, hz2⟩ := info_parts infoMv
  obtain ⟨v', w', hr, h2, h3, _⟩ := run_append_own (P := Try.prog) w base 29 o.type 65 i0 _ 2 32 Try.underlying29 hi0 hz0 hz1 hz2 rfl (by omega) v ys.length (mcells ys) hown ad zs.length c (mcells zs) (mcells_length zs) hnew (mcells_one zs) (by simp only [maxLen]; omega) (by omega) hbase
  unfold Oper.wp
  simp [execOp, ho, resolve, invoke, builtin, hs, hx, hr, Result.andThen]
  refine h v' w' ?_ h3
  show World.ownsRow _ _ _ _ _ _ _
  rw [mcells_append, List.length_append]
  exact h2

set_option maxRecDepth 100000 in
set_option maxHeartbeats 3200000 in
theorem l5Next_c (xs : List Mv) (v : Value) (w : World) (hx : RdM w v xs) (hn' : xs.length ≤ 1048575) (hne : ∀ m ∈ xs, m.1 ≠ m.2) :
    Calls Try.prog 134 #[v] w fun e w' => e = .returned (.int .i64 (aheadZ xs)) ∧ Below w.heap.size w w' := by
  have hx0 := hx
  obtain ⟨A, cap, rfl, hn, hc, hcell⟩ := hx.open
  have HZ := Lib.hid (aheadZ_none (xs := xs))
  have HK := Lib.hid (fun k hk h => aheadZ_at (xs := xs) (k := k) hk h)
  have HRD := Lib.hid (fun ys v a W h => l5Read_c ys v a W h)
  have HNE := Lib.hid hne
  clear hne hx
  go_enter Try.func134, Try.ntmps134
  go_wp2
  go_loopw [3, 4, 5, 8] (fun _ _ _ i wr => ∃ (k : Nat), k ≤ xs.length ∧ i = .int .i64 k ∧ Below w.heap.size w wr ∧ Hid (∀ j (hj : j < k) (hj2 : j < xs.length), freeB xs xs[j] = false)) (fun _ _ _ i _ => xs.length - (RowKit.intOf i).toNat)
  case atStart => exact ⟨0, by omega, rfl, Below.refl _ _, fun j hj => by omega⟩
  case round =>
    obtain ⟨k, hk, rfl, hb, hm⟩ := hrel
    have hbs := hb.size
    by_cases hlt : k < xs.length
    · obtain ⟨b, off, rfl, hbl, hc1, hc2⟩ := hcell k hlt
      have hd1 := (hb.cell (p := ⟨b, off + k * 2, none⟩) hbl).trans hc1
      have hd2 := (hb.cell (p := ⟨b, off + k * 2 + 1, none⟩) hbl).trans hc2
      have hsrc := Rd.cellsFrom hx0
      have hcp : ∀ (W : World), Below w.heap.size w W → ∀ (j : Nat) (u : Value), (mcells (xs.take k))[j]? = some u → W.cell? ((⟨b, off, none⟩ : Addr).add j) = some u := fun W hW j u h => by
        rw [add_off]
        refine (hW.cell hbl).trans (hsrc j u ?_)
        rw [← mcells_take, List.getElem?_take] at h
        split at h
        · exact h
        · cases h
      have hcq : ∀ (W : World), Below w.heap.size w W → ∀ (j : Nat) (u : Value), (mcells (xs.drop (k + 1)))[j]? = some u → W.cell? ((⟨b, off + (k + 1) * 2, none⟩ : Addr).add j) = some u := fun W hW j u h => by
        rw [add_off, Nat.add_assoc]
        refine (hW.cell hbl).trans (hsrc _ u ?_)
        rw [← mcells_drop, List.getElem?_drop] at h
        exact h
      have hltk : (xs.take k).length = k := by rw [List.length_take]; omega
      have hldk : (xs.drop (k + 1)).length = xs.length - (k + 1) := by rw [List.length_drop]
      have hsum : (xs.take k).length + (xs.drop (k + 1)).length ≤ 1048576 := by omega
      have i0 : (0 : Int) ≤ (k : Int) := by omega
      have i1 : (k : Int) ≤ (xs.length : Int) := by omega
      have i2 : (k : Int) + 1 ≤ (xs.length : Int) := by omega
      have HER : Hid (xs.take k ++ xs.drop (k + 1) = xs.eraseIdx k) := by show _ = _; rw [List.eraseIdx_eq_take_drop_succ]
      have HFB : Hid (readB (xs.eraseIdx k) xs[k].1 = !freeB xs xs[k]) := by
        show _ = _
        have h1 := rdN_erase xs k hlt xs[k].1
        rw [if_neg (fun e => HNE.out _ (List.getElem_mem hlt) e.symm), Nat.add_zero] at h1
        unfold readB freeB
        rw [h1]
        by_cases e : rdN (xs.eraseIdx k) xs[k].1 = 0 <;> simp [e]
      have HKK := Lib.hid (fun h => HK.out k hlt h)
      have HNX : Hid (freeB xs xs[k] = false → ∀ j (hj : j < k + 1) (hj2 : j < xs.length), freeB xs xs[j] = false) := fun h j hj hj2 => by
        by_cases e : j = k
        · subst e; exact h
        · exact hm.out j (by omega) hj2
      have HCP := Lib.hid hcp
      have HCQ := Lib.hid hcq
      clear hc1 hc2 hcell hcp hcq hsrc
      generalize hfb : freeB xs xs[k] = fb at *
      clear hfb
      generalize xs[k].1 = x1 at *
      generalize xs[k].2 = x2 at *
      generalize xs.take k = p1 at *
      generalize xs.drop (k + 1) = p2 at *
      generalize xs.eraseIdx k = er at *
      have HB1 : Hid (Below w.heap.size w (wr.alloc (.cells #[.string x1, .string x2] 65))) := hb.alloc hbs _
      have n1 : k ≤ cap := by omega
      have n2 : k + 1 ≤ xs.length := by omega
      have n3 : k + 1 ≤ cap := by omega
      have n4 : IntKind.i64.wrap ((k : Int) + 1) = (k : Int) + 1 := IntWalk.i64_in _ ⟨by omega, by omega⟩
      have n5 : ((k : Int) + 1).toNat = k + 1 := by omega
      have n6 : (0 : Int) ≤ (k : Int) + 1 := by omega
      by_cases hcap : cap = k + 1
      · subst hcap
        have hp20 : p2.length = 0 := by omega
        have n7 : (k : Int) ≤ (k : Int) + 1 := by omega
        have HCZ : Hid (∀ (W : World) (j : Nat) (u : Value), (mcells p2)[j]? = some u → W.cell? ((⟨b, off, none⟩ : Addr).add j) = some u) := fun W j u h => by
          have : p2 = [] := List.length_eq_zero_iff.1 (by omega)
          rw [this] at h; simp [mcells] at h
        go_wp2
        go_region_law (first
          | (refine step_appM rfl (.tmp 13) (.tmp 16) rfl (wr.heap.size + 1) (.slice (some ⟨wr.heap.size + 1, 0, none⟩) 0 0) [] p1 ⟨b, off, none⟩ (k + 1) (by rfl) (by rw [hltk]; rfl) (own_lit1 _ _ _ _ (by simp) (by omega)) (HCP.out _ (by (repeat' (first | (with_reducible exact Below.refl _ _) | (with_reducible assumption) | (with_reducible refine Below.alloc ?_ ?_ _) | (with_reducible refine Below.drew ?_) | (with_reducible refine Below.setCell ?_ ?_ _) | (with_reducible exact Nat.le_refl _) | omega | ((repeat (first | rewrite [World.size_alloc] | rewrite [World.size_setCell] | rewrite [World.size_drew])); omega) | (simp; omega) | (simp; done))))) (by simp; omega) (by simp only [World.size_alloc, World.size_drew]; omega) ?_; intro v1 w1 ho1 hg1; have hb1 := Below.trans (show Below w.heap.size w ((wr.alloc (.cells #[.string x1, .string x2] 65)).alloc (.cells #[] 65)).drew by (repeat' (first | (with_reducible exact Below.refl _ _) | (with_reducible assumption) | (with_reducible refine Below.alloc ?_ ?_ _) | (with_reducible refine Below.drew ?_) | (with_reducible refine Below.setCell ?_ ?_ _) | (with_reducible exact Nat.le_refl _) | omega | ((repeat (first | rewrite [World.size_alloc] | rewrite [World.size_setCell] | rewrite [World.size_drew])); omega) | (simp; omega) | (simp; done)))) (below_grown hg1 (by simp; omega) (fun g e => by have e' : some (wr.heap.size + 1) = some g := e; cases e'; omega)))
          | (refine step_appM rfl (.tmp 17) (.tmp 21) rfl (wr.heap.size + 1) _ _ p2 ⟨b, off, none⟩ 0 (by rfl) (by rw [hp20]; rfl) ho1.out (HCZ.out _) (by simpa using hsum) (by have := hg1.size; simp at this; omega) ?_; intro v2 w2 ho2 hg2))
        have hz1 := hg1.size
        have hz2 := hg2.size
        simp only [World.size_alloc, World.size_drew] at hz1
        have hrd2 : RdM w2 v2 er := by
          have := Rd.of_own ho2.out
          rw [List.nil_append, HER.out] at this
          exact this
        have hge1 := own_block_ge ho1.out
        have hN0 : At ((wr.alloc (.cells #[.string x1, .string x2] 65)).alloc (.cells #[] 65)).drew wr.heap.size 65 #[.string x1, .string x2] := (At.new wr 65 #[.string x1, .string x2]).alloc _
        have hN1 : At w1 wr.heap.size 65 #[.string x1, .string x2] := hN0.grown hg1 (by intro e; have e' : some wr.heap.size = some (wr.heap.size + 1) := e; have := Option.some.inj e'; omega)
        have hN2 : At w2 wr.heap.size 65 #[.string x1, .string x2] := hN1.grown hg2 (fun e => by have := hge1 _ e.symm; omega)
        have q1 : w2.cell? ⟨wr.heap.size, 0, none⟩ = some (.string x1) := hN2.cell 0
        have hb2 : Below w.heap.size w w2 := hb1.trans (below_grown hg2 (by omega) (fun g e => by have := hge1 g e; omega))
        have hs2 := hb2.size
        clear hg1 hg2 hN0 hN1 hN2 ho1 ho2 hd1 hd2 hb1
        have HRR := Lib.hid (HRD.out er v2 x1 w2 hrd2)
        rw [HFB.out] at HRR
        clear hrd2
        cases fb with
        | true =>
          go_wp2_with (go_at_call 154; refine HRR.out.mono ?_; rintro e w3 ⟨rfl, hb3⟩)
          go_ret
          exact ⟨by rw [HKK.out (fun j hj => hm.out j hj (by omega)) (by first | trivial | rfl)]; rfl, hb2.trans (hb3.mono hs2)⟩
        | false =>
          go_wp2_with (go_at_call 154; refine HRR.out.mono ?_; rintro e w3 ⟨rfl, hb3⟩)
          go_roundw
          case rel => exact ⟨k + 1, by omega, by go_num, hb2.trans (hb3.mono hs2), HNX.out (by first | trivial | rfl)⟩
          case measure => simp [RowKit.intOf]; omega
      · go_wp2
        go_region_law (first
          | (refine step_appM rfl (.tmp 13) (.tmp 16) rfl (wr.heap.size + 1) (.slice (some ⟨wr.heap.size + 1, 0, none⟩) 0 0) [] p1 ⟨b, off, none⟩ cap (by rfl) (by rw [hltk]; rfl) (own_lit1 _ _ _ _ (by simp) (by omega)) (HCP.out _ (by (repeat' (first | (with_reducible exact Below.refl _ _) | (with_reducible assumption) | (with_reducible refine Below.alloc ?_ ?_ _) | (with_reducible refine Below.drew ?_) | (with_reducible refine Below.setCell ?_ ?_ _) | (with_reducible exact Nat.le_refl _) | omega | ((repeat (first | rewrite [World.size_alloc] | rewrite [World.size_setCell] | rewrite [World.size_drew])); omega) | (simp; omega) | (simp; done))))) (by simp; omega) (by simp only [World.size_alloc, World.size_drew]; omega) ?_; intro v1 w1 ho1 hg1; have hb1 := Below.trans (show Below w.heap.size w ((wr.alloc (.cells #[.string x1, .string x2] 65)).alloc (.cells #[] 65)).drew by (repeat' (first | (with_reducible exact Below.refl _ _) | (with_reducible assumption) | (with_reducible refine Below.alloc ?_ ?_ _) | (with_reducible refine Below.drew ?_) | (with_reducible refine Below.setCell ?_ ?_ _) | (with_reducible exact Nat.le_refl _) | omega | ((repeat (first | rewrite [World.size_alloc] | rewrite [World.size_setCell] | rewrite [World.size_drew])); omega) | (simp; omega) | (simp; done)))) (below_grown hg1 (by simp; omega) (fun g e => by have e' : some (wr.heap.size + 1) = some g := e; cases e'; omega)))
          | (refine step_appM rfl (.tmp 17) (.tmp 21) rfl (wr.heap.size + 1) _ _ p2 ⟨b, off + (k + 1) * 2, none⟩ (cap - (k + 1)) (by rfl) (by rw [hldk]; rfl) ho1.out (HCQ.out _ hb1) (by simpa using hsum) (by have := hg1.size; simp at this; omega) ?_; intro v2 w2 ho2 hg2))
        have hz1 := hg1.size
        have hz2 := hg2.size
        simp only [World.size_alloc, World.size_drew] at hz1
        have hrd2 : RdM w2 v2 er := by
          have := Rd.of_own ho2.out
          rw [List.nil_append, HER.out] at this
          exact this
        have hge1 := own_block_ge ho1.out
        have hN0 : At ((wr.alloc (.cells #[.string x1, .string x2] 65)).alloc (.cells #[] 65)).drew wr.heap.size 65 #[.string x1, .string x2] := (At.new wr 65 #[.string x1, .string x2]).alloc _
        have hN1 : At w1 wr.heap.size 65 #[.string x1, .string x2] := hN0.grown hg1 (by intro e; have e' : some wr.heap.size = some (wr.heap.size + 1) := e; have := Option.some.inj e'; omega)
        have hN2 : At w2 wr.heap.size 65 #[.string x1, .string x2] := hN1.grown hg2 (fun e => by have := hge1 _ e.symm; omega)
        have q1 : w2.cell? ⟨wr.heap.size, 0, none⟩ = some (.string x1) := hN2.cell 0
        have hb2 : Below w.heap.size w w2 := hb1.trans (below_grown hg2 (by omega) (fun g e => by have := hge1 g e; omega))
        have hs2 := hb2.size
        clear hg1 hg2 hN0 hN1 hN2 ho1 ho2 hd1 hd2 hb1
        have HRR := Lib.hid (HRD.out er v2 x1 w2 hrd2)
        rw [HFB.out] at HRR
        clear hrd2
        cases fb with
        | true =>
          go_wp2_with (go_at_call 154; refine HRR.out.mono ?_; rintro e w3 ⟨rfl, hb3⟩)
          go_ret
          exact ⟨by rw [HKK.out (fun j hj => hm.out j hj (by omega)) (by first | trivial | rfl)]; rfl, hb2.trans (hb3.mono hs2)⟩
        | false =>
          go_wp2_with (go_at_call 154; refine HRR.out.mono ?_; rintro e w3 ⟨rfl, hb3⟩)
          go_roundw
          case rel => exact ⟨k + 1, by omega, by go_num, hb2.trans (hb3.mono hs2), HNX.out (by first | trivial | rfl)⟩
          case measure => simp [RowKit.intOf]; omega
    · have hz := HZ.out fun j hj => hm.out j (by omega) hj
      have HZZ := Lib.hid hz
      clear hz
      go_wp2
      go_ret
      exact ⟨by rw [HZZ.out]; rfl, hb⟩
end Go.Proofs.Ytogkodjlbdlgjaa
namespace Go.PM
open Go.RowKit
theorem rows_ne {w : World} {base base' : Nat} {e e' : TypeId} {size size' n n' : Nat} {v v' : Value} {cs cs' : List Value} (h : w.ownsRow base e size v n cs) (h' : w.ownsRow base' e' size' v' n' cs') (hne : e ≠ e') : v.ownBlock ≠ v'.ownBlock ∨ v'.ownBlock = none := by
  rcases h'.2 with ⟨rfl, _⟩ | ⟨g, cap, cur, rfl, _, hg, _⟩
  · exact .inr rfl
  · refine .inl fun e1 => ?_
    rcases h.2 with ⟨rfl, _⟩ | ⟨g2, cap2, cur2, rfl, _, hg2, _⟩
    · cases e1
    · cases e1
      rw [hg] at hg2
      cases hg2
      exact hne rfl
theorem redM_spec {ws : List Mv} (h : Wt ws) {i : Nat} (hi : i < ws.length) : redM ws[i] (ws.eraseIdx i) = if isP ws[i].2 = true then instM ws[i].2 ws[i].1 (ws.eraseIdx i) else ws.eraseIdx i := by
  have hm := List.getElem_mem hi
  unfold redM
  rcases h.from_ _ hm with h1 | h1 | h1
  · rw [if_neg (by rw [(isP_cases h1).1]; decide), if_pos h1]
  · rw [if_pos h1, if_neg (by rw [(isD_cases h1).1]; decide)]
  · rw [h1, if_neg (by rw [spT_cases.2]; decide), if_neg (by rw [spT_cases.1]; decide)]
    refine instM_none ?_
    have h2 := rdN_erase ws i hi spT
    rw [if_pos h1] at h2
    have := h.one
    omega
theorem redM_spec0 {ws : List Mv} (h : Wt ws) (h0 : 0 < ws.length) : redM (spT, ws[0].1) ws = instM ws[0].1 spT ws := by
  unfold redM
  rw [if_neg (by show ¬ isD ws[0].1 = true; rw [(isP_cases (h.to_ _ (List.getElem_mem h0))).1]; decide)]
/-- what the ordering holds at the head of a round: k steps are enough for what waits -/
def OrdS (w : World) (e f : TypeId) (xs : List Mv) (k : Nat) (ov wv : Value) (A : World) : Prop :=
  ∃ (pre ws : List Mv), pre ++ ordF k ws = ordF 19 xs ∧ Wt ws ∧ muW ws ≤ k ∧ ws.length ≤ 9 ∧ A.ownsRow w.heap.size e 2 wv ws.length (mcells ws) ∧ A.ownsRow w.heap.size f 3 ov pre.length (scells (stL pre)) ∧ Below w.heap.size w A
end Go.PM
namespace Go.Proofs.Ytogkodjlbdlgjaa
open Go.RowKit Go.PM
attribute [local go_sem] Oper.semAt_some

/-- append of one step -/
theorem app_stp {ops : Array Oper} {rest : List Oper} {o : Oper} {a : Act} {Q : Exit → Act → World → Prop} {w : World} (hgd : o.guard = none) (s x : Operand)
    (ho : o.op = .call { callee := .builtin .append, args := #[s, x], argTypes := #[23, 23] })
    (base : Nat) (v : Value) (ys : List Mv) (m : Mv) (ad : Addr) (c : Nat) (hs : a.eval s = v) (hx : a.eval x = .slice (some ad) 1 c)
    (hown : w.ownsRow base 67 3 v ys.length (scells (stL ys))) (hnew : ∀ j u, [Value.int .i64 0, Value.string m.1, Value.string m.2][j]? = some u → w.cell? (ad.add j) = some u)
    (hlen : ys.length ≤ 1048576) (hbase : base ≤ w.heap.size)
    (h : ∀ v' w', w'.ownsRow base 67 3 v' (ys ++ [m]).length (scells (stL (ys ++ [m]))) → w.grownBy w' v.ownBlock → wpList Try.prog ops Q rest (a.put o.dst v') w') : wpList Try.prog ops Q (o :: rest) a w := by
  obtain ⟨i0, hi0, hz0, hz1, hz2⟩ := info_parts infoStp
  refine wpList_append_own w hgd s x _ ho base 67 i0 _ 3 40 Try.underlying23 hi0 hz0 hz1 hz2 rfl (by omega) v ys.length (scells (stL ys)) hs hown ad 1 c [Value.int .i64 0, Value.string m.1, Value.string m.2] hx rfl hnew
    (by intro u hu; simp at hu; rcases hu with rfl | rfl | rfl <;> rfl) (by simp only [maxLen]; omega) (by omega) hbase ?_
  intro v' w' h2 h3 _
  refine h v' w' ?_ h3
  have hcs : scells (stL ys) ++ [Value.int .i64 0, Value.string m.1, Value.string m.2] = scells (stL (ys ++ [m])) := by unfold stL; rw [List.map_append, scells_append]; simp [scells, stpM]
  rw [← hcs, List.length_append]
  simpa using h2

set_option maxRecDepth 100000 in
set_option maxHeartbeats 6400000 in
theorem l5Order_c (xs : List Mv) (h1 : MV xs) (v : Value) (w : World) (hx : RdM w v xs) :
    Calls Try.prog 121 #[v] w fun e w' => ∃ v', e = .returned v' ∧ w'.ownsRow w.heap.size 67 3 v' (ordF 19 (busyF xs 9)).length (scells (stL (ordF 19 (busyF xs 9)))) ∧ Below w.heap.size w w' := by
  have hW := busyF_Wt h1
  have hl9 := busyF_len xs 9
  have HNX := Lib.hid (fun ws wv A hx hl hn => l5Next_c ws wv A hx (by omega : ws.length ≤ 1048575) hn)
  have HIN := Lib.hid (fun ws wv a c A hx hl => l5Instead_c ws wv a c A hx (by omega : ws.length ≤ 1048575))
  have hE0 := World.ownsRow_lit (e := 67) (base := w.heap.size) (size := 3) w #[] 0 (Nat.le_refl _) (Nat.zero_le _) rfl
  have hb0 : Below w.heap.size w (w.alloc (.cells #[] 67)) := (Below.refl _ _).alloc (Nat.le_refl _) _
  have HB := Lib.hid (l1Busy_c xs v _ (hx.below hb0))
  go_enter Try.func121, Try.ntmps121
  go_wp2_with (go_at_call 133; refine HB.out.mono ?_; rintro e w1 ⟨v1, rfl, ho1, hb1⟩; refine held ?_)
  unfold Held
  have hb01 := hb0.trans (hb1.mono (by simp))
  have hR0 : OrdS w 65 67 (busyF xs 9) 19 (.slice (some ⟨w.heap.size, 0, none⟩) 0 0) v1 w1 :=
    ⟨[], busyF xs 9, rfl, hW, by have := hl9; unfold muW; split <;> omega, hl9, own_more ho1 hb0.size, own_keep hE0 hb1, hb01⟩
  clear hE0 hb0 HB ho1 hb1 hb01 hx hl9 hW h1
  generalize hbe : busyF xs 9 = bs at *
  have HBE := Lib.hid hbe
  clear hbe
  go_wp2
  go_loopw [3, 4, 5, 6, 7] (fun ov wv _ _ _ wr => ∃ k, OrdS w 65 67 bs k ov wv wr) (fun ov wv _ _ _ wr => leastK (fun k => OrdS w 65 67 bs k ov wv wr))
  case atStart => exact ⟨19, hR0⟩
  case round =>
    obtain ⟨hru, _⟩ := leastK_spec hrel
    generalize hkk : leastK (fun k => OrdS w 65 67 bs k u3 u4 wr) = kk at *
    have HKK := Lib.hid hkk
    clear hrel hkk hR0
    obtain ⟨pre, ws, hpr, hwt, hmu, h9, ho, hov, hb⟩ := hru
    have hbs := hb.size
    have hrd : RdM wr u4 ws := Rd.of_own ho
    obtain ⟨A, cap, rfl, hn1, hc1, hcell⟩ := hrd.open
    have hpl : pre.length ≤ 100 := by
      have h1 := congrArg List.length hpr
      rw [List.length_append] at h1
      have h2 := ordF_len 19 bs
      omega
    by_cases h0 : 0 < ws.length
    · obtain ⟨k, rfl⟩ : ∃ k', kk = k' + 1 := ⟨kk - 1, by unfold muW at hmu; omega⟩
      obtain ⟨b, off, rfl, hbl, d1', d2'⟩ := hcell 0 h0
      have hblo := (own_lt ho)
      have hcs : ∀ q (hq : q < ws.length), wr.cell? ⟨b, off + q * 2, none⟩ = some (.string ws[q].1) ∧ wr.cell? ⟨b, off + q * 2 + 1, none⟩ = some (.string ws[q].2) := fun q hq => by
        obtain ⟨b', off', e, _, q1, q2⟩ := hcell q hq
        cases e; exact ⟨q1, q2⟩
      have d1 : wr.cell? ⟨b, off, none⟩ = some (.string ws[0].1) := by simpa using d1'
      have i00 : (0 : Int) < (ws.length : Int) := by omega
      have hnx := HNX.out ws _ wr hrd (by omega) hwt.ne
      clear d1' d2' hcell
      rcases aheadZ_lt ws with hz | ⟨i, hi, hz, ha⟩
      · have ha := aheadI_of_neg hz
        have hof := ordF_none (n := k) h0 ha
        have hrn := hwt.none_ h0 ha
        have hrs := redM_spec0 hwt h0
        have hmn := muW_none hwt h0 ha
        rw [hrs] at hof hrn hmn
        have hin := HIN.out ws (.slice (some ⟨b, off, none⟩) ws.length cap) ws[0].1 spT
        have hnw := three_new
        have HNEW : Hid ((pre ++ [(spT, ws[0].1)]) ++ ordF k (instM ws[0].1 spT ws) = ordF 19 bs ∧ Wt (instM ws[0].1 spT ws) ∧ muW (instM ws[0].1 spT ws) ≤ k ∧ (instM ws[0].1 spT ws).length ≤ 9) :=
          ⟨by rw [← hpr, hof]; simp, hrn.1, by omega, by rw [instM_len]; exact h9⟩
        have HSP : Hid (spT = ⟨#[116]⟩) := rfl
        rw [hz] at hnx
        clear hz hof hrn hrs hmn hcs ha hpr
        generalize instM ws[0].1 spT ws = ws2 at *
        generalize ws[0].1 = x1 at *
        generalize spT = sp at *
        have hsp := HSP.out
        subst hsp
        go_wp2_with (go_at_call 134; refine hnx.mono ?_; rintro e w1' ⟨rfl, hb1⟩; refine held ?_)
        unfold Held
        have e1 := (hb1.cell (p := ⟨b, off, none⟩) hbl).trans d1
        have hov1 := own_keep hov hb1
        have ho1 := own_keep ho hb1
        have hB1 := hb.trans (hb1.mono hbs)
        have hs1 := hB1.size
        clear d1 hov ho hrd hb hb1
        go_wp2_with (at_builtin; refine held ?_)
        unfold Held
        refine app_stp rfl (.tmp 22) (.tmp 26) rfl w.heap.size _ pre (⟨#[116]⟩, x1) ⟨w1'.heap.size, 0, none⟩ 1 (by rfl) (by rfl) (own_keep hov1 ((Below.refl _ _).alloc (Nat.le_refl _) _)) (three_new w1' _ _ _ _) (by omega) (by simp; omega) ?_
        intro v3 w3 hov3 hg3
        have hbx : Below w.heap.size w (w1'.alloc (.cells #[.int .i64 0, .string ⟨#[116]⟩, .string x1] 67)) := hB1.alloc hs1 _
        have hB3 := hbx.trans (below_grown hg3 (by simp; omega) (own_block_ge hov1))
        have hs3 := hB3.size
        have ho3 := own_grown (own_keep ho1 ((Below.refl _ _).alloc (Nat.le_refl _) (.cells #[.int .i64 0, .string ⟨#[116]⟩, .string x1] 67))) hg3 (rows_ne ho1 hov1 (by decide))
        have hrd3 : RdM w3 _ ws := Rd.of_own ho3
        clear hg3 hbx hB1 hov1 ho1 e1
        go_wp2_with fail
        refine (hin w3 hrd3 (by omega)).mono ?_
        rintro e w4 ⟨v4, rfl, ho4, hb4⟩
        have hOR : OrdS w 65 67 bs k v3 v4 w4 := ⟨_, ws2, HNEW.out.1, HNEW.out.2.1, HNEW.out.2.2.1, HNEW.out.2.2.2, own_more ho4 hs3, own_keep hov3 hb4, hB3.trans (hb4.mono hs3)⟩
        clear ho4 hov3 hb4 ho3 hrd3
        go_wp2
        go_roundw
        case rel => exact ⟨k, hOR⟩
        case measure =>
          rw [HKK.out]
          have := (leastK_spec (P := fun k => OrdS w 65 67 bs k v3 v4 w4) ⟨k, hOR⟩).2 _ hOR
          omega
      · have hof := ordF_some (n := k) hi ha
        have hrn := hwt.some_ hi (aheadI_some ha).2
        have hrs := redM_spec hwt hi
        have hmn := muW_some hi ws[i]
        have hlr : (redM ws[i] (ws.eraseIdx i)).length ≤ 9 := by rw [redM_len, List.length_eraseIdx_of_lt hi]; omega
        have hin := fun v => HIN.out (ws.eraseIdx i) v ws[i].2 ws[i].1
        have hle9 : (ws.eraseIdx i).length ≤ 9 := by rw [List.length_eraseIdx_of_lt hi]; omega
        have HNEW : Hid ((pre ++ [ws[i]]) ++ ordF k (redM ws[i] (ws.eraseIdx i)) = ordF 19 bs ∧ Wt (redM ws[i] (ws.eraseIdx i)) ∧ muW (redM ws[i] (ws.eraseIdx i)) ≤ k ∧ (redM ws[i] (ws.eraseIdx i)).length ≤ 9) :=
          ⟨by rw [← hpr, hof]; simp, hrn, by omega, hlr⟩
        have HRS := Lib.hid hrs
        have hci := hcs i hi
        have i0 : (0 : Int) ≤ (i : Int) := by omega
        have i1 : (i : Int) < (ws.length : Int) := by omega
        rw [hz] at hnx
        clear hz hof hrn hrs hmn hcs ha hpr hlr d1
        generalize redM ws[i] (ws.eraseIdx i) = ws2 at *
        rw [show ws[i] = (ws[i].1, ws[i].2) from rfl] at HNEW
        generalize ws[i].1 = x1 at *
        generalize ws[i].2 = x2 at *
        go_wp2_with (go_at_call 134; refine hnx.mono ?_; rintro e w1' ⟨rfl, hb1⟩; refine held ?_)
        unfold Held
        have e1 := (hb1.cell (p := ⟨b, off + i * 2, none⟩) hbl).trans hci.1
        have e2 := (hb1.cell (p := ⟨b, off + i * 2 + 1, none⟩) hbl).trans hci.2
        have hov1 := own_keep hov hb1
        have ho1 := own_keep ho hb1
        have hB1 := hb.trans (hb1.mono hbs)
        have hs1 := hB1.size
        clear hov ho hrd hb hb1 hci
        have hN1 := At.new w1' 65 #[.string x1, .string x2]
        have hax : Below w1'.heap.size w1' (w1'.alloc (.cells #[.string x1, .string x2] 65)) := (Below.refl _ _).alloc (Nat.le_refl _) _
        have hov1b := own_keep hov1 hax
        have ho1b := own_keep ho1 hax
        have hnw := three_new (w1'.alloc (.cells #[.string x1, .string x2] 65)) (.int .i64 0) (.string x1) (.string x2) 67
        rw [World.size_alloc] at hnw
        go_wp2_with (at_builtin; refine held ?_)
        unfold Held
        refine app_stp rfl (.tmp 35) (.tmp 38) rfl w.heap.size _ pre (x1, x2) ⟨w1'.heap.size + 1, 0, none⟩ 1 (by rfl) (by rfl) (own_keep hov1b ((Below.refl _ _).alloc (Nat.le_refl _) _)) hnw (by omega) (by simp; omega) ?_
        intro v3 wx hov3 hg3
        have hbx : Below w.heap.size w ((w1'.alloc (.cells #[.string x1, .string x2] 65)).alloc (.cells #[.int .i64 0, .string x1, .string x2] 67)) := (hB1.alloc hs1 _).alloc (by simp; omega) _
        have hB3 := hbx.trans (below_grown hg3 (by simp; omega) (own_block_ge hov1))
        have hs3 := hB3.size
        have ho3 := own_grown (own_keep ho1b ((Below.refl _ _).alloc (Nat.le_refl _) (.cells #[.int .i64 0, .string x1, .string x2] 67))) hg3 (rows_ne ho1b hov1b (by decide))
        have hN3 := (hN1.alloc (.cells #[.int .i64 0, .string x1, .string x2] 67)).grown hg3 (own_box_ne hov1b hN1 (by decide))
        have hrdx : RdM wx (.slice (some ⟨b, off, none⟩) ws.length cap) ws := Rd.of_own ho3
        have hblx : b < wx.heap.size := (own_blk ho3 rfl).1
        have hsrc := Rd.cellsFrom hrdx
        clear hg3 hbx hB1 hov1 ho1 e1 e2 hov1b ho1b hax hN1 hnw hnx
        have hcp : ∀ (W : World), Below wx.heap.size wx W → ∀ (j : Nat) (u : Value), (mcells (ws.take i))[j]? = some u → W.cell? ((⟨b, off, none⟩ : Addr).add j) = some u := fun W hW j u h => by
          rw [add_off]
          refine (hW.cell hblx).trans (hsrc j u ?_)
          rw [← mcells_take, List.getElem?_take] at h
          split at h
          · exact h
          · cases h
        have hcq : ∀ (W : World), Below wx.heap.size wx W → ∀ (j : Nat) (u : Value), (mcells (ws.drop (i + 1)))[j]? = some u → W.cell? ((⟨b, off + (i + 1) * 2, none⟩ : Addr).add j) = some u := fun W hW j u h => by
          rw [add_off, Nat.add_assoc]
          refine (hW.cell hblx).trans (hsrc _ u ?_)
          rw [← mcells_drop, List.getElem?_drop] at h
          exact h
        have hltk : (ws.take i).length = i := by rw [List.length_take]; omega
        have hldk : (ws.drop (i + 1)).length = ws.length - (i + 1) := by rw [List.length_drop]
        have hsum : (ws.take i).length + (ws.drop (i + 1)).length ≤ 1048576 := by omega
        have i2 : (i : Int) + 1 ≤ (ws.length : Int) := by omega
        have i3 : (i : Int) ≤ (ws.length : Int) := by omega
        have HER : Hid (ws.take i ++ ws.drop (i + 1) = ws.eraseIdx i) := by show _ = _; rw [List.eraseIdx_eq_take_drop_succ]
        have HCP := Lib.hid hcp
        have HCQ := Lib.hid hcq
        have n1 : i ≤ cap := by omega
        have n2 : i + 1 ≤ ws.length := by omega
        have n3 : i + 1 ≤ cap := by omega
        have n4 : IntKind.i64.wrap ((i : Int) + 1) = (i : Int) + 1 := IntWalk.i64_in _ ⟨by omega, by omega⟩
        have n5 : ((i : Int) + 1).toNat = i + 1 := by omega
        have n6 : (0 : Int) ≤ (i : Int) + 1 := by omega
        clear hcp hcq hsrc
        generalize ws.take i = p1 at *
        generalize ws.drop (i + 1) = p2 at *
        by_cases hcap : cap = i + 1
        · subst hcap
          have hp20 : p2.length = 0 := by omega
          have n7 : (i : Int) ≤ (i : Int) + 1 := by omega
          have HCZ : Hid (∀ (W : World) (j : Nat) (u : Value), (mcells p2)[j]? = some u → W.cell? ((⟨b, off, none⟩ : Addr).add j) = some u) := fun W j u h => by
            have : p2 = [] := List.length_eq_zero_iff.1 (by omega)
            rw [this] at h; simp [mcells] at h
          go_wp2
          go_region_law (first
                    | (refine step_appM rfl (.tmp 40) (.tmp 43) rfl wx.heap.size (.slice (some ⟨wx.heap.size, 0, none⟩) 0 0) [] p1 ⟨b, off, none⟩ (i + 1) (by rfl) (by rw [hltk]; rfl) (own_lit1 _ _ _ _ rfl (Nat.le_refl _)) (HCP.out _ (by (repeat' (first | (with_reducible exact Below.refl _ _) | (with_reducible assumption) | (with_reducible refine Below.alloc ?_ ?_ _) | (with_reducible refine Below.drew ?_) | (with_reducible refine Below.setCell ?_ ?_ _) | (with_reducible exact Nat.le_refl _) | omega | ((repeat (first | rewrite [World.size_alloc] | rewrite [World.size_setCell] | rewrite [World.size_drew])); omega) | (simp; omega) | (simp; done))))) (by simp; omega) (by simp) ?_; intro vq wq ho1 hg1; have hb1' := Below.trans (show Below wx.heap.size wx ((wx.alloc (.cells #[] 65)).drew) by (repeat' (first | (with_reducible exact Below.refl _ _) | (with_reducible assumption) | (with_reducible refine Below.alloc ?_ ?_ _) | (with_reducible refine Below.drew ?_) | (with_reducible refine Below.setCell ?_ ?_ _) | (with_reducible exact Nat.le_refl _) | omega | ((repeat (first | rewrite [World.size_alloc] | rewrite [World.size_setCell] | rewrite [World.size_drew])); omega) | (simp; omega) | (simp; done)))) (below_grown hg1 (by simp) (fun g e => by have e' : some wx.heap.size = some g := e; cases e'; omega)))
                    | (refine step_appM rfl (.tmp 44) (.tmp 48) rfl wx.heap.size _ _ p2 ⟨b, off, none⟩ 0 (by rfl) (by rw [hp20]; rfl) ho1.out (HCZ.out _) (by simpa using hsum) (by have := hg1.size; simp at this; omega) ?_; intro v2 w2 ho2 hg2))
          have hz1 := hg1.size
          have hz2 := hg2.size
          simp only [World.size_alloc, World.size_drew] at hz1
          have hge1 := own_block_ge ho1.out
          have hb2 : Below wx.heap.size wx w2 := hb1'.trans (below_grown hg2 (by omega) (fun g e => by have := hge1 g e; omega))
          have ho2' : w2.ownsRow wx.heap.size 65 2 v2 (ws.eraseIdx i).length (mcells (ws.eraseIdx i)) := by
            have := ho2.out
            rw [List.nil_append, HER.out] at this
            exact this
          have HO2 := Lib.hid ho2'
          clear hg1 hg2 ho1 ho2 hb1' ho2' hge1 hz1 hz2 HCP HCQ HER
          
          have q1 := hN3.keep hb2
          have q11 : w2.cell? ⟨w1'.heap.size, 0, none⟩ = some (.string x1) := q1.cell 0
          have q12 : w2.cell? ⟨w1'.heap.size, 1, none⟩ = some (.string x2) := q1.cell 1
          have hov4 := own_keep hov3 hb2
          have hB4 := hB3.trans (hb2.mono hs3)
          have hs4 := hB4.size
          have hs5 := hb2.size
          clear q1 hN3 hov3 hrdx ho3 hB3 hb2
          rcases Bool.eq_false_or_eq_true (isP x2) with hp | hp
          · have hr := HRS.out
            rw [if_pos hp] at hr
            have hrd5 : RdM w2 v2 (ws.eraseIdx i) := Rd.of_own HO2.out
            have HI := Lib.hid (hin v2 w2 hrd5 (by omega))
            rw [← hr] at HI
            clear hr hrd5 hin
            go_wp2_with (first | (go_at_call 114; refine (l1Place_c _ _).mono ?_; rintro e w' ⟨rfl, rfl⟩) | (go_at_call 135; refine HI.out.mono ?_; rintro e w6 ⟨v6, rfl, ho6, hb6⟩; refine held ?_))
            unfold Held
            have hOR : OrdS w 65 67 bs k v3 v6 w6 := ⟨_, ws2, HNEW.out.1, HNEW.out.2.1, HNEW.out.2.2.1, HNEW.out.2.2.2, own_more ho6 hs4, own_keep hov4 hb6, hB4.trans (hb6.mono hs4)⟩
            clear ho6 hov4 hb6 hB4
            go_wp2
            go_roundw
            case rel => exact ⟨k, hOR⟩
            case measure =>
              rw [HKK.out]
              have := (leastK_spec (P := fun k => OrdS w 65 67 bs k v3 v6 w6) ⟨k, hOR⟩).2 _ hOR
              omega
          · have hr := HRS.out
            rw [if_neg (by rw [hp]; decide)] at hr
            have ho7 := HO2.out
            rw [← hr] at ho7
            have hOR : OrdS w 65 67 bs k v3 v2 w2 := ⟨_, ws2, HNEW.out.1, HNEW.out.2.1, HNEW.out.2.2.1, HNEW.out.2.2.2, own_more ho7 (by omega), hov4, hB4⟩
            clear hr ho7 hov4 hB4 hin
            go_wp2_with (go_at_call 114; refine (l1Place_c _ _).mono ?_; rintro e w' ⟨rfl, rfl⟩)
            go_roundw
            case rel => exact ⟨k, hOR⟩
            case measure =>
              rw [HKK.out]
              have := (leastK_spec (P := fun k => OrdS w 65 67 bs k v3 v2 w2) ⟨k, hOR⟩).2 _ hOR
              omega
        · go_wp2
          go_region_law (first
                    | (refine step_appM rfl (.tmp 40) (.tmp 43) rfl wx.heap.size (.slice (some ⟨wx.heap.size, 0, none⟩) 0 0) [] p1 ⟨b, off, none⟩ cap (by rfl) (by rw [hltk]; rfl) (own_lit1 _ _ _ _ rfl (Nat.le_refl _)) (HCP.out _ (by (repeat' (first | (with_reducible exact Below.refl _ _) | (with_reducible assumption) | (with_reducible refine Below.alloc ?_ ?_ _) | (with_reducible refine Below.drew ?_) | (with_reducible refine Below.setCell ?_ ?_ _) | (with_reducible exact Nat.le_refl _) | omega | ((repeat (first | rewrite [World.size_alloc] | rewrite [World.size_setCell] | rewrite [World.size_drew])); omega) | (simp; omega) | (simp; done))))) (by simp; omega) (by simp) ?_; intro vq wq ho1 hg1; have hb1' := Below.trans (show Below wx.heap.size wx ((wx.alloc (.cells #[] 65)).drew) by (repeat' (first | (with_reducible exact Below.refl _ _) | (with_reducible assumption) | (with_reducible refine Below.alloc ?_ ?_ _) | (with_reducible refine Below.drew ?_) | (with_reducible refine Below.setCell ?_ ?_ _) | (with_reducible exact Nat.le_refl _) | omega | ((repeat (first | rewrite [World.size_alloc] | rewrite [World.size_setCell] | rewrite [World.size_drew])); omega) | (simp; omega) | (simp; done)))) (below_grown hg1 (by simp) (fun g e => by have e' : some wx.heap.size = some g := e; cases e'; omega)))
                    | (refine step_appM rfl (.tmp 44) (.tmp 48) rfl wx.heap.size _ _ p2 ⟨b, off + (i + 1) * 2, none⟩ (cap - (i + 1)) (by rfl) (by rw [hldk]; rfl) ho1.out (HCQ.out _ hb1') (by simpa using hsum) (by have := hg1.size; simp at this; omega) ?_; intro v2 w2 ho2 hg2))
          have hz1 := hg1.size
          have hz2 := hg2.size
          simp only [World.size_alloc, World.size_drew] at hz1
          have hge1 := own_block_ge ho1.out
          have hb2 : Below wx.heap.size wx w2 := hb1'.trans (below_grown hg2 (by omega) (fun g e => by have := hge1 g e; omega))
          have ho2' : w2.ownsRow wx.heap.size 65 2 v2 (ws.eraseIdx i).length (mcells (ws.eraseIdx i)) := by
            have := ho2.out
            rw [List.nil_append, HER.out] at this
            exact this
          have HO2 := Lib.hid ho2'
          clear hg1 hg2 ho1 ho2 hb1' ho2' hge1 hz1 hz2 HCP HCQ HER
          
          have q1 := hN3.keep hb2
          have q11 : w2.cell? ⟨w1'.heap.size, 0, none⟩ = some (.string x1) := q1.cell 0
          have q12 : w2.cell? ⟨w1'.heap.size, 1, none⟩ = some (.string x2) := q1.cell 1
          have hov4 := own_keep hov3 hb2
          have hB4 := hB3.trans (hb2.mono hs3)
          have hs4 := hB4.size
          have hs5 := hb2.size
          clear q1 hN3 hov3 hrdx ho3 hB3 hb2
          rcases Bool.eq_false_or_eq_true (isP x2) with hp | hp
          · have hr := HRS.out
            rw [if_pos hp] at hr
            have hrd5 : RdM w2 v2 (ws.eraseIdx i) := Rd.of_own HO2.out
            have HI := Lib.hid (hin v2 w2 hrd5 (by omega))
            rw [← hr] at HI
            clear hr hrd5 hin
            go_wp2_with (first | (go_at_call 114; refine (l1Place_c _ _).mono ?_; rintro e w' ⟨rfl, rfl⟩) | (go_at_call 135; refine HI.out.mono ?_; rintro e w6 ⟨v6, rfl, ho6, hb6⟩; refine held ?_))
            unfold Held
            have hOR : OrdS w 65 67 bs k v3 v6 w6 := ⟨_, ws2, HNEW.out.1, HNEW.out.2.1, HNEW.out.2.2.1, HNEW.out.2.2.2, own_more ho6 hs4, own_keep hov4 hb6, hB4.trans (hb6.mono hs4)⟩
            clear ho6 hov4 hb6 hB4
            go_wp2
            go_roundw
            case rel => exact ⟨k, hOR⟩
            case measure =>
              rw [HKK.out]
              have := (leastK_spec (P := fun k => OrdS w 65 67 bs k v3 v6 w6) ⟨k, hOR⟩).2 _ hOR
              omega
          · have hr := HRS.out
            rw [if_neg (by rw [hp]; decide)] at hr
            have ho7 := HO2.out
            rw [← hr] at ho7
            have hOR : OrdS w 65 67 bs k v3 v2 w2 := ⟨_, ws2, HNEW.out.1, HNEW.out.2.1, HNEW.out.2.2.1, HNEW.out.2.2.2, own_more ho7 (by omega), hov4, hB4⟩
            clear hr ho7 hov4 hB4 hin
            go_wp2_with (go_at_call 114; refine (l1Place_c _ _).mono ?_; rintro e w' ⟨rfl, rfl⟩)
            go_roundw
            case rel => exact ⟨k, hOR⟩
            case measure =>
              rw [HKK.out]
              have := (leastK_spec (P := fun k => OrdS w 65 67 bs k v3 v2 w2) ⟨k, hOR⟩).2 _ hOR
              omega

    · have : ws = [] := List.length_eq_zero_iff.1 (by omega)
      subst this
      rw [ordF_nil, List.append_nil] at hpr
      rw [hpr] at hov
      go_wp2
      go_ret
      exact ⟨_, rfl, by rw [HBE.out]; exact hov, hb⟩
set_option maxRecDepth 100000 in
set_option maxHeartbeats 1600000 in
theorem spOrderMoves_c (xs : List Mv) (v : Value) (w : World) (hx : RdM w v xs) (hz : ∀ m ∈ xs, m.1.size ≤ 9223372036854775807 ∧ m.2.size ≤ 9223372036854775807) (hn' : xs.length ≤ 1048576) :
    Calls Try.prog 97 #[v] w fun e w' => ∃ v', e = .returned (.tuple #[v', .bool (mvalid xs)]) ∧ w'.ownsRow w.heap.size 67 3 v' (ordM xs).length (scells (stL (ordM xs))) ∧ Below w.heap.size w w' := by
  rcases Bool.eq_false_or_eq_true (mvalid xs) with h1 | h1
  · have hO := Lib.hid (show ordM xs = ordF 19 (busyF xs 9) from if_pos h1)
    have hOC := Lib.hid (fun W h => l5Order_c xs (by simpa [mvalid] using h1) v W h)
    have HX := Lib.hid (fun W (hW : Below w.heap.size w W) => hx.below hW)
    go_enter Try.func97, Try.ntmps97
    go_wp2_with fail
    refine (spMovesValid_c xs _ _ hx hz hn').mono ?_
    rintro e w1 ⟨he, hb1⟩
    rw [h1] at he
    subst he
    have hs1 := hb1.size
    go_wp2_with fail
    refine (hOC.out _ (HX.out _ hb1)).mono ?_
    rintro e w2 ⟨v2, rfl, ho2, hb2⟩
    have hB := hb1.trans (hb2.mono hs1)
    have ho3 := own_more ho2 hs1
    rw [← hO.out] at ho3
    clear ho2 hb2
    go_wp2
    go_ret2
    exact ⟨_, by rw [h1]; rfl, ho3, hB⟩
  · have hno : ordM xs = [] := if_neg (by rw [h1]; decide)
    have HNO := Lib.hid hno
    clear hno
    go_enter Try.func97, Try.ntmps97
    go_wp2_with fail
    refine (spMovesValid_c xs _ _ hx hz hn').mono ?_
    rintro e w1 ⟨he, hb1⟩
    rw [h1] at he
    subst he
    have hs1 := hb1.size
    have hE := World.ownsRow_lit (e := 67) (base := w.heap.size) (size := 3) w1 #[] 0 (by omega) (Nat.zero_le _) rfl
    have hB := hb1.alloc hs1 (.cells #[] 67)
    go_wp2
    go_ret2
    exact ⟨_, by rw [h1]; rfl, by rw [HNO.out]; exact hE, hB⟩
theorem spOrderMovesL_c (xs : List Mv) (v : Value) (w : World) (hx : RdM w v xs) (hz : ∀ m ∈ xs, m.1.size ≤ 9223372036854775807 ∧ m.2.size ≤ 9223372036854775807) (hn' : xs.length ≤ 1048576) :
    Calls Try.prog 97 #[v] w fun e w' => ∃ v', e = .returned (.tuple #[v', .bool (mvalid xs)]) ∧ w'.ownsRow w.heap.size 67 3 v' (stL (ordM xs)).length (scells (stL (ordM xs))) ∧ Below w.heap.size w w' := by
  rw [stL_len]; exact spOrderMoves_c xs v w hx hz hn'
end Go.Proofs.Ytogkodjlbdlgjaa
namespace Go.Proofs.Ytogkodjlbdlgjaa
open Go.RowKit Go.PM Go.PD Go.Lib
set_option maxRecDepth 100000 in
set_option maxHeartbeats 1600000 in
theorem spOrderDirect_c (xs : List Mv) (v : Value) (w : World) (hx : RdM w v xs) (hz : ∀ m ∈ xs, m.1.size ≤ 9223372036854775807 ∧ m.2.size ≤ 9223372036854775807) (hn' : xs.length ≤ 1048576) :
    Calls Try.prog 44 #[v] w fun e w' => ∃ v', e = .returned (.tuple #[v', .bool (mvalid xs)]) ∧ w'.ownsRow w.heap.size 67 3 v' (odS xs).length (scells (odS xs)) ∧ Below w.heap.size w w' := by
  have HO := Lib.hid (spOrderMoves_c xs v w hx hz hn')
  rcases Bool.eq_false_or_eq_true (mvalid xs) with h1 | h1
  · have HE := Lib.hid (odS_yes h1)
    have hl : (ordM xs).length ≤ 19 := by
      have hx : MV xs := by simpa [mvalid] using h1
      rw [ordM_yes hx]; exact ordF_len _ _
    have HL : Hid ((stL (ordM xs)).length = (ordM xs).length) := by show _ = _; simp [stL]
    have H1 := Lib.hid h1
    clear h1
    go_enter Try.func44, Try.ntmps44
    go_wp2_with fail
    refine HO.out.mono ?_
    rintro e w1 ⟨v1, rfl, ho, hb1⟩
    rw [H1.out]
    rw [← HL.out] at ho
    have hx1 : RdS w1 v1 (stL (ordM xs)) := Rd.of_own ho
    have HMD := Lib.hid (l8Direct_c (stL (ordM xs)) v1 w1 hx1 (by rw [HL.out]; omega))
    rw [← HE.out] at HMD
    have hs1 := hb1.size
    clear ho hx1
    go_wp2_with fail
    refine HMD.out.mono ?_
    rintro e w2 ⟨v2, rfl, ho2, hb2⟩
    have ho3 := own_more ho2 hs1
    have hb3 := hb1.trans (hb2.mono hs1)
    clear HMD ho2 hb2
    go_wp2
    go_ret2
    exact ⟨_, by rw [H1.out]; rfl, ho3, hb3⟩
  · have HE := Lib.hid (odS_no h1)
    have H1 := Lib.hid h1
    clear h1
    go_enter Try.func44, Try.ntmps44
    go_wp2_with fail
    refine HO.out.mono ?_
    rintro e w1 ⟨v1, rfl, ho, hb1⟩
    rw [H1.out]
    have hO := World.ownsRow_lit (e := 67) (base := w.heap.size) (size := 3) w1 #[] 0 hb1.size (Nat.zero_le _) rfl
    clear ho
    go_wp2
    go_ret2
    exact ⟨_, by rw [H1.out]; rfl, by rw [HE.out]; exact hO, hb1.alloc hb1.size _⟩
set_option maxHeartbeats 800000 in
theorem spCountDirect_c (xs : List Mv) (v : Value) (w : World) (hx : RdM w v xs) (hz : ∀ m ∈ xs, m.1.size ≤ 9223372036854775807 ∧ m.2.size ≤ 9223372036854775807) (hn' : xs.length ≤ 1048576) :
    Calls Try.prog 49 #[v] w fun e w' => e = .returned (.int .i64 (cdI xs)) ∧ Below w.heap.size w w' := by
  have HO := Lib.hid (spOrderDirect_c xs v w hx hz hn')
  have HY := Lib.hid (fun h => cdI_yes (xs := xs) h)
  have HN := Lib.hid (fun h => cdI_no (xs := xs) h)
  rcases Bool.eq_false_or_eq_true (mvalid xs) with h1 | h1
  all_goals
    have H1 := Lib.hid h1
    clear h1
    go_enter Try.func49, Try.ntmps49
    go_wp2_with fail
    refine HO.out.mono ?_
    rintro e w1 ⟨v1, rfl, ho, hb1⟩
    obtain ⟨A, cap, rfl, _⟩ := Rd.of_own ho
    rw [H1.out]
    clear ho
    go_wp2
    go_ret
    exact ⟨by first | (rw [HY.out H1.out]; rfl) | (rw [HN.out H1.out]; rfl), hb1⟩
end Go.Proofs.Ytogkodjlbdlgjaa
namespace Go.PD
open Go.PM Go.RowKit
theorem ord_sh {xs : List Mv} (h : mvalid xs = true) : shS 70 (stL (ordM xs)) := by
  have hx : MV xs := by simpa [mvalid] using h
  have hv := ordM_valid hx
  have hl : (ordM xs).length ≤ 19 := by rw [ordM_yes hx]; exact ordF_len _ _
  refine ⟨by simp [stL]; omega, fun x hm => ?_⟩
  have := ok_sizes (sv_mem hv x hm)
  omega
theorem rdB_nowD {w w' : World} {n : Nat} {v : Value} (h : RdB w w.heap.size v n) (hb : Below w.heap.size w w') : RdB w' w'.heap.size v n := by
  obtain ⟨A, cap, e, h1, h2, h3⟩ := h.keep (grown_below hb none) (fun r e => by cases e)
  refine ⟨A, cap, e, h1, h2, fun k hk => ?_⟩
  obtain ⟨b, off, c, e1, _, hl, hc⟩ := h3 k hk
  exact ⟨b, off, c, e1, hl, hl, hc⟩
end Go.PD
namespace Go.Proofs.Ytogkodjlbdlgjaa
open Go.RowKit Go.PM Go.PD
attribute [local go_sem] Oper.semAt_some

set_option maxRecDepth 100000 in
set_option maxHeartbeats 2000000 in
theorem l8Some_c (w : World) (B r : Nat) (p : Int) (hr : Rdr w 120 B r p) (p1 : p ≤ 900000) :
    Calls Try.prog 75 #[.pointer (some ⟨r, 0, none⟩)] w fun e w' => ∃ v xs p', e = .returned v ∧ w'.ownsRow w.heap.size 65 2 v xs.length (mcells xs) ∧ (xs.length ≤ 65 ∧ ∀ m ∈ xs, m.1.size ≤ 64 ∧ m.2.size ≤ 64) ∧ Rdr w' 120 B r p' ∧ p' ≤ p + 100 ∧ w.grownBy w' (some r) := by
  have hlt : r < w.heap.size := by obtain ⟨_, _, v, n, _, _, h⟩ := hr; exact h.lt
  have HP := Lib.hid (pick_c w B r 3 p hr (by omega) (by omega) (by omega))
  go_enter Try.func75, Try.ntmps75
  go_wp2_with fail
  refine HP.out.mono ?_
  rintro e w1 ⟨k, rfl, k0, k1, R1, g1⟩
  have hs1 := g1.size
  clear HP
  by_cases h0 : k = 0
  · subst h0
    have HS := Lib.hid (l1Some_c w1 B r (p + 1) R1 (by omega))
    go_wp2_with fail
    refine HS.out.mono ?_
    rintro e w2 ⟨v, xs, p', rfl, ho, hsh, R2, hp', g2⟩
    have HSH := Lib.hid hsh
    have HPP : Hid (p' ≤ p + 100) := by show _ ≤ _; omega
    clear hsh
    go_wp2
    go_ret
    exact ⟨_, xs, p', rfl, own_more ho hs1, HSH.out, R2, HPP.out, grown_trans g1 g2⟩
  · have t0 : (k == 0) = false := by simpa using h0
    go_wp2_with fail
    have E0 := World.ownsRow_lit (e := 65) (base := w.heap.size) (size := 2) w1 #[] 0 hs1 (Nat.zero_le _) rfl
    have L5 := Lits.strs1 (w1.alloc (.cells #[] 65)) 9 #[.string ⟨#[65, 66, 67]⟩, .string ⟨#[97, 65, 66]⟩, .string ⟨#[97, 98, 65, 66, 67]⟩, .string ⟨#[97, 65, 49, 66]⟩] 20 (by rfl)
    rw [World.size_alloc] at L5
    refine (of_c _ B r (w1.heap.size + 1) 4 (p + 1) (fun s => 1 ≤ s.size ∧ s.size ≤ 20) ((R1.keep ((Below.refl _ _).alloc (Nat.le_refl _) _)).keep ((Below.refl _ _).alloc (Nat.le_refl _) _)) (by decide) (by decide) (by omega) L5 (by omega)).mono ?_
    clear L5
    rintro e w2 ⟨from_, rfl, ⟨hf1, hf2⟩, R2, g2⟩
    have E1 := own_grown (own_keep E0 ((Below.refl _ _).alloc (Nat.le_refl _) (.cells #[.string ⟨#[65, 66, 67]⟩, .string ⟨#[97, 65, 66]⟩, .string ⟨#[97, 98, 65, 66, 67]⟩, .string ⟨#[97, 65, 49, 66]⟩] 9))) g2 (.inl (fun e => by have := own_block_ge E0 r e; omega))
    have G2 := grown_trans g1 (grown_trans (grown_below (((Below.refl _ _).alloc (Nat.le_refl _) (.cells #[] 65)).alloc (by simp) (.cells #[.string ⟨#[65, 66, 67]⟩, .string ⟨#[97, 65, 66]⟩, .string ⟨#[97, 98, 65, 66, 67]⟩, .string ⟨#[97, 65, 49, 66]⟩] 9)) (some r)) g2)
    have hs2 := G2.size
    clear E0 g1 g2 R1
    go_wp2
    go_loopw [3, 5, 6, 18] (fun o _ _ i wr => ∃ (j : Nat) (xs : List Mv) (q : Int), j ≤ from_.size ∧ i = .int .i64 j ∧ xs.length ≤ j ∧ Hid (∀ m ∈ xs, m.1.size ≤ 64 ∧ m.2.size ≤ 64) ∧ wr.ownsRow w.heap.size 65 2 o xs.length (mcells xs) ∧ Rdr wr 120 B r q ∧ q ≤ p + 2 + 2 * (j : Int) ∧ w.grownBy wr (some r)) (fun _ _ _ i _ => from_.size - (intOf i).toNat)
    case atStart => exact ⟨0, [], _, by omega, rfl, Nat.zero_le _, (fun m hm => by cases hm), E1, R2, by omega, G2⟩
    case round =>
      obtain ⟨j, xs, q, hj, rfl, hxl, hxs, ho, R, hq, G⟩ := hrel
      have hsr := G.size
      by_cases hlt2 : j < from_.size
      · have i1 : (j : Int) < (from_.size : Int) := by omega
        have z1 : (from_.extract j (j + 1)).size = 1 := by rw [ByteArray.size_extract]; omega
        generalize hx1 : from_.extract j (j + 1) = x1 at *
        have HPL := Lib.hid (fun W => l1Place_c x1 W)
        have HP4 := Lib.hid (pick_c wr B r 5 q R (by omega) (by omega) (by omega))
        generalize isP x1 = pb at *
        cases pb with
        | false =>
          go_wp2_with (go_at_call 114; refine (HPL.out _).mono ?_; rintro e w' ⟨rfl, rfl⟩)
          go_roundw
          case rel => exact ⟨j + 1, xs, q, by omega, by go_num, by omega, hxs, ho, R, by omega, G⟩
          case measure => simp [intOf]; omega
        | true =>
          go_wp2_with (first | (go_at_call 114; refine (HPL.out _).mono ?_; rintro e w' ⟨rfl, rfl⟩) | (go_at_call 52; refine held ?_))
          unfold Held
          refine HP4.out.mono ?_
          rintro e w4 ⟨k4, rfl, k40, k41, R4, g4⟩
          have ho4 := own_grown ho g4 (.inl (fun e => by have := own_block_ge ho r e; omega))
          have G4 := grown_trans G g4
          have hs4 := G4.size
          clear ho g4 G R HP4
          by_cases hp0 : 0 < k4
          · have HP5 := Lib.hid (pick_c w4 B r from_.size (q + 1) R4 (by omega) (by omega) (by omega))
            go_wp2_with fail
            refine HP5.out.mono ?_
            rintro e w5 ⟨k5, rfl, k50, k51, R5, g5⟩
            obtain ⟨J, rfl⟩ := Int.eq_ofNat_of_zero_le k50
            have ho5 := own_grown ho4 g5 (.inl (fun e => by have := own_block_ge ho4 r e; omega))
            have G5 := grown_trans G4 g5
            have hs5 := G5.size
            clear ho4 g5 G4 R4 HP5
            have z2 : (from_.extract J (J + 1)).size = 1 := by rw [ByteArray.size_extract]; omega
            have HXA : Hid (∀ m ∈ xs ++ [(x1, from_.extract J (J + 1))], m.1.size ≤ 64 ∧ m.2.size ≤ 64) := fun m hm => by
              rcases List.mem_append.1 hm with h | h
              · exact hxs.out m h
              · have e : m = (x1, from_.extract J (J + 1)) := by simpa using h
                rw [e]
                exact ⟨by show x1.size ≤ 64; omega, by show (from_.extract J (J + 1)).size ≤ 64; omega⟩
            generalize hx2 : from_.extract J (J + 1) = x2 at *
            have hnw := two_new w5.drew (.string x1) (.string x2) 65
            have hlr : r < w5.heap.size := by omega
            go_wp2
            refine region_late_wide (m := 0) (C := fun w' => w' = w5.drew) (D := fun _ => True) 12 (by kernel_rfl) (by kernel_rfl) _ _ (by rfl) (by rfl) (by rfl) u3 (by intro _ _ _ h; exact h) (yieldsD_move (by rfl) _ (by rfl) u3 (by rfl)) (fun _ _ => trivial) rfl ?_
            simp only [List.take_succ_cons, List.take_zero, List.drop_succ_cons, List.drop_zero, Nat.reduceSub, Nat.reduceAdd]
            simp only [Act.put, List.setIfInBounds_toArray, List.set_cons_succ, List.set_cons_zero]
            repeat (gi_big_quiet_step (fail))
            refine wpQuietIn_nil ?_
            intro w' hw' K hK
            subst hw'
            refine sliceIn_mv (.tmp 47) rfl x1 x2 (by rfl) ?_
            refine hK _ _ trivial ?_
            clear hK K
            simp only [Act.put, List.setIfInBounds_toArray, List.set_cons_succ, List.set_cons_zero]
            have hod : w5.drew.ownsRow w.heap.size 65 2 u3 xs.length (mcells xs) := ho5
            have hzd : w5.drew.heap.size = w5.heap.size := rfl
            refine listIn_mv rfl (.tmp 36) (.tmp 48) rfl w.heap.size u3 xs (x1, x2) ⟨w5.drew.heap.size, 0, none⟩ 1 (by rfl) (by rfl) (own_keep hod ((Below.refl _ _).alloc (Nat.le_refl _) _)) hnw (by omega) (by simp; omega) ?_
            intro v' w6 hown6 hgrow6
            have hge := own_block_ge ho5
            have Rd5 : Rdr w5.drew 120 B r (q + 1 + 1) := R5
            have Gd5 : w.grownBy w5.drew (some r) := ⟨G5.os, G5.tape, G5.output, G5.size, G5.block⟩
            have R6 := (Rd5.keep ((Below.refl _ _).alloc (Nat.le_refl _) (.cells #[.string x1, .string x2] 65))).grow hgrow6 (fun g e => by have := hge g e; omega)
            have G6 := grown_over (grown_trans Gd5 (grown_below ((Below.refl _ _).alloc (Nat.le_refl _) (.cells #[.string x1, .string x2] 65)) (some r))) hgrow6 hge
            clear ho5 R5 G5 hod Rd5 Gd5 hge hgrow6 hnw hxs
            gi_wp2
            go_wp2
            go_roundw
            case rel => exact ⟨j + 1, xs ++ [(x1, x2)], _, by omega, by go_num, by simp; omega, HXA, hown6, R6, by omega, G6⟩
            case measure => simp [intOf]; omega
          · have t1 : decide (0 < k4) = false := decide_eq_false hp0
            go_wp2
            go_roundw
            case rel => exact ⟨j + 1, xs, _, by omega, by go_num, by omega, hxs, ho4, R4, by omega, G4⟩
            case measure => simp [intOf]; omega
      · have HQQ : Hid (q ≤ p + 100) := by show _ ≤ _; omega
        go_wp2
        go_ret
        exact ⟨_, xs, q, rfl, ho, ⟨by omega, hxs.out⟩, R, HQQ.out, G⟩
set_option maxRecDepth 100000 in
set_option maxHeartbeats 1600000 in
theorem l8Steps_c (w : World) (B r : Nat) (p : Int) (hr : Rdr w 120 B r p) (p1 : p ≤ 800000) :
    Calls Try.prog 55 #[.pointer (some ⟨r, 0, none⟩)] w fun e w' => ∃ v xs p', e = .returned v ∧ w'.ownsRow w.heap.size 67 3 v xs.length (scells xs) ∧ shS 70 xs ∧ Rdr w' 120 B r p' ∧ p' ≤ p + 200 ∧ w.grownBy w' (some r) := by
  have HS := Lib.hid (l8Some_c w B r p hr (by omega))
  have hlt : r < w.heap.size := by obtain ⟨_, _, v, n, _, _, h⟩ := hr; exact h.lt
  go_enter Try.func55, Try.ntmps55
  go_wp2_with fail
  refine HS.out.mono ?_
  rintro e w1 ⟨v1, xs, p', rfl, ho1, ⟨hxl, hxz⟩, R1, hp1, g1⟩
  have hs1 := g1.size
  have HO := Lib.hid (spOrderMoves_c xs v1 w1 (Rd.of_own ho1) (fun m hm => by have := hxz m hm; omega) (by omega))
  have HSH := Lib.hid (fun h => ord_sh (xs := xs) h)
  have HL : Hid ((stL (ordM xs)).length = (ordM xs).length) := by show _ = _; simp [stL]
  clear HS hr ho1 hxz
  go_wp2_with fail
  refine HO.out.mono ?_
  rintro e w2 ⟨v2, rfl, ho2, hb2⟩
  rw [← HL.out] at ho2
  have R2 := R1.keep hb2
  have G2 := grown_trans g1 (grown_below hb2 (some r))
  have hs2 := G2.size
  have hs12 := hb2.size
  have ho3 := own_more ho2 hs1
  clear HO R1 g1 hb2 ho2
  generalize hys : stL (ordM xs) = ys at *
  have HYS := Lib.hid hys
  rcases Bool.eq_false_or_eq_true (mvalid xs) with h1 | h1
  · have HSY := Lib.hid (HSH.out h1)
    rw [h1]
    have HP := Lib.hid (pick_c w2 B r 2 p' R2 (by omega) (by omega) (by omega))
    go_wp2_with fail
    refine HP.out.mono ?_
    rintro e w3 ⟨k, rfl, k0, k1, R3, g3⟩
    have ho4 := own_grown ho3 g3 (.inl (fun e => by have := own_block_ge ho3 r e; omega))
    have G3 := grown_trans G2 g3
    have hs3 := G3.size
    clear HP ho3 g3 R2 h1
    by_cases h0 : k = 0
    · subst h0
      go_wp2
      go_ret
      exact ⟨_, ys, _, rfl, ho4, HSY.out, R3, by omega, G3⟩
    · have t0 : (k == 0) = false := by simpa using h0
      have HD := Lib.hid (l2Some_c w3 B r (p' + 1) R3 (by omega))
      go_wp2_with fail
      refine HD.out.mono ?_
      rintro e w4 ⟨v4, zs, p4, rfl, ho5, hsh, R4, hp4, g4⟩
      have HSZ := Lib.hid hsh
      have ho6 := own_more ho5 hs3
      have G4 := grown_trans G3 g4
      clear hsh ho5 ho4
      go_wp2
      go_ret
      exact ⟨_, zs, _, rfl, ho6, HSZ.out, R4, by omega, G4⟩
  · rw [h1]
    have HD := Lib.hid (l2Some_c w2 B r p' R2 (by omega))
    go_wp2_with fail
    refine HD.out.mono ?_
    rintro e w4 ⟨v4, zs, p4, rfl, ho5, hsh, R4, hp4, g4⟩
    have HSZ := Lib.hid hsh
    have ho6 := own_more ho5 hs2
    have G4 := grown_trans G2 g4
    clear hsh ho5 ho3
    go_wp2
    go_ret
    exact ⟨_, zs, _, rfl, ho6, HSZ.out, R4, by omega, G4⟩
end Go.Proofs.Ytogkodjlbdlgjaa
namespace Go.PD
open Go.PM Go.RowKit
theorem beq_u (x : ByteArray) : (x.toList == [117]) = decide (x = spU) := by
  have := beq_str x spU
  rwa [ByteArray.toList_eq spU] at this
theorem mdS_len (xs : List St) : (mdS xs).length ≤ 1048576 := by
  unfold mdS
  split
  · next h =>
    unfold mdB at h
    simp only [Bool.and_eq_true, decide_eq_true_eq] at h
    omega
  · simp
theorem all_bad {xs : List St} (h : ∀ j (hj : j < xs.length), badX xs[j] = false) : ∀ x ∈ xs, badX x = false := fun x hx => by
  obtain ⟨k, hk, rfl⟩ := List.getElem_of_mem hx
  exact h k hk
end Go.PD
namespace Go.Proofs.Ytogkodjlbdlgjaa
open Go.RowKit Go.PM Go.PD Go.Lib

set_option maxRecDepth 100000 in
set_option maxHeartbeats 2000000 in
theorem spMakeDirect_c (xs : List St) (v : Value) (w : World) (hx : RdS w v xs) (hn' : xs.length ≤ 1048576) :
    Calls Try.prog 15 #[v] w fun e w' => ∃ v', e = .returned (.tuple #[v', .bool (mdB xs)]) ∧ w'.ownsRow w.heap.size 67 3 v' (mdS xs).length (scells (mdS xs)) ∧ Below w.heap.size w w' := by
  have hsd := hx
  obtain ⟨A, cap, rfl, hn, hc, hcell⟩ := hx.open
  have HX := Lib.hid (fun W (hW : Below w.heap.size w W) => hsd.below hW)
  have HSV := Lib.hid (fun ys u W (hW : RdS W u ys) => spSequenceValid_c ys u W hW)
  have HDC := Lib.hid (fun W (hW : Below w.heap.size w W) => l8Direct_c xs _ W (HX.out _ hW) hn')
  have HE0 : ∀ W : World, w.heap.size ≤ W.heap.size → (W.alloc (.cells #[] 67)).ownsRow w.heap.size 67 3 (.slice (some ⟨W.heap.size, 0, none⟩) 0 0) ([] : List St).length (scells []) := fun W hW => World.ownsRow_lit (e := 67) (base := w.heap.size) (size := 3) W #[] 0 hW (Nat.zero_le _) rfl
  have HNO : Hid (mdB xs = false → mdS xs = []) := mdS_no
  have HYS : Hid (mdB xs = true → mdS xs = mkD xs) := mdS_yes
  have HBAD := Lib.hid (fun k hk h => bad_no (xs := xs) k hk h)
  have HGD := Lib.hid (fun h => md_good (xs := xs) (all_bad h))
  clear hx hsd
  go_enter Try.func15, Try.ntmps15
  go_wp2
  go_loopw [5, 9] (fun _ i wr => ∃ (k : Nat), k ≤ xs.length ∧ i = .int .i64 k ∧ Hid (∀ j (hj : j < xs.length), j < k → badX xs[j] = false) ∧ Below w.heap.size w wr) (fun _ i _ => xs.length - (RowKit.intOf i).toNat)
  case atStart => exact ⟨0, by omega, rfl, fun j _ hj => absurd hj (Nat.not_lt_zero j), Below.refl _ _⟩
  case round =>
    obtain ⟨k, hk, rfl, hm, hb⟩ := hrel
    have hbs := hb.size
    by_cases hlt : k < xs.length
    · obtain ⟨b, off, rfl, hbl, hc1, hc2, hc3⟩ := hcell k hlt
      have hd1 := (hb.cell (p := ⟨b, off + k * 3, none⟩) hbl).trans hc1
      have hd2 := (hb.cell (p := ⟨b, off + k * 3 + 1, none⟩) hbl).trans hc2
      have hd3 := (hb.cell (p := ⟨b, off + k * 3 + 2, none⟩) hbl).trans hc3
      clear hc1 hc2 hc3 hcell
      have HE : Hid (badX xs[k] = ((decide (xs[k].1 = 1) && far (xs[k].1, xs[k].2.1, xs[k].2.2)) || (decide (xs[k].2.1 = spU) || decide (xs[k].2.2 = spU)))) := rfl
      have HFK := Lib.hid (HBAD.out k hlt)
      have HM : Hid (badX xs[k] = false → ∀ j (hj : j < xs.length), j < k + 1 → badX xs[j] = false) := by
        intro h j hj hjk
        rcases Nat.lt_succ_iff_lt_or_eq.1 hjk with h1 | h1
        · exact hm.out j hj h1
        · subst h1; exact h
      have HD := Lib.hid (fun W => l8Far_c xs[k].1 xs[k].2.1 xs[k].2.2 W)
      generalize xs[k].1 = x1 at *
      generalize xs[k].2.1 = x2 at *
      generalize xs[k].2.2 = x3 at *
      have HB2 : Hid ((x2.toList == [117]) = decide (x2 = spU)) := beq_u x2
      have HB3 : Hid ((x3.toList == [117]) = decide (x3 = spU)) := beq_u x3
      have hb1 : Below w.heap.size w (wr.alloc (.cells #[.int .i64 x1, .string x2, .string x3] 67)) := hb.alloc hbs _
      have hN1 : At (wr.alloc (.cells #[.int .i64 x1, .string x2, .string x3] 67)) wr.heap.size 67 #[.int .i64 x1, .string x2, .string x3] := At.new _ _ _
      have hs1 := hb1.size
      by_cases hk1 : x1 = 1
      · subst hk1
        generalize far (1, x2, x3) = f at *
        cases f with
        | true =>
          go_wp2_with (go_at_call 62; refine (HD.out _).mono ?_; rintro e w2 ⟨rfl, hb2⟩)
          have hB := hb1.trans (hb2.mono hs1)
          have hO := HE0 w2 hB.size
          go_ret2
          have HF := Lib.hid (HFK.out (by rw [HE.out]; rfl))
          exact ⟨_, by rw [HF.out]; rfl, by rw [HNO.out HF.out]; exact hO, hB.alloc hB.size _⟩
        | false =>
          rcases Bool.eq_false_or_eq_true (x2.toList == [117]) with h2 | h2
          · have HF := Lib.hid (HFK.out (by rw [HE.out, ← HB2.out, h2]; rfl))
            go_wp2_with fail
            refine (HD.out _).mono ?_
            rintro e w2 ⟨rfl, hb2⟩
            have hN2 := hN1.keep hb2
            have c1 : w2.cell? ⟨wr.heap.size, 1, none⟩ = some (.string x2) := hN2.cell 1
            have hB := hb1.trans (hb2.mono hs1)
            have hO := HE0 w2 hB.size
            clear hN1 hN2 hb2 hb1 hb hd1 hd2 hd3
            go_wp2
            go_ret2
            exact ⟨_, by rw [HF.out]; rfl, by rw [HNO.out HF.out]; exact hO, hB.alloc hB.size _⟩
          · rcases Bool.eq_false_or_eq_true (x3.toList == [117]) with h3 | h3
            · have HF := Lib.hid (HFK.out (by rw [HE.out, ← HB2.out, ← HB3.out, h2, h3]; rfl))
              go_wp2_with fail
              refine (HD.out _).mono ?_
              rintro e w2 ⟨rfl, hb2⟩
              have hN2 := hN1.keep hb2
              have c1 : w2.cell? ⟨wr.heap.size, 1, none⟩ = some (.string x2) := hN2.cell 1
              have c2 : w2.cell? ⟨wr.heap.size, 2, none⟩ = some (.string x3) := hN2.cell 2
              have hB := hb1.trans (hb2.mono hs1)
              have hO := HE0 w2 hB.size
              clear hN1 hN2 hb2 hb1 hb hd1 hd2 hd3
              go_wp2
              go_ret2
              exact ⟨_, by rw [HF.out]; rfl, by rw [HNO.out HF.out]; exact hO, hB.alloc hB.size _⟩
            · have HG := Lib.hid (HM.out (by rw [HE.out, ← HB2.out, ← HB3.out, h2, h3]; rfl))
              go_wp2_with fail
              refine (HD.out _).mono ?_
              rintro e w2 ⟨rfl, hb2⟩
              have hN2 := hN1.keep hb2
              have c1 : w2.cell? ⟨wr.heap.size, 1, none⟩ = some (.string x2) := hN2.cell 1
              have c2 : w2.cell? ⟨wr.heap.size, 2, none⟩ = some (.string x3) := hN2.cell 2
              have hB := hb1.trans (hb2.mono hs1)
              clear hN1 hN2 hb2 hb1 hb hd1 hd2 hd3
              go_wp2
              go_roundw
              case rel => exact ⟨k + 1, by omega, by go_num, HG.out, hB⟩
              case measure => simp [RowKit.intOf]; omega
      · have t1 : (x1 == 1) = false := by simpa using hk1
        have HK1 := Lib.hid hk1
        clear hk1
        rcases Bool.eq_false_or_eq_true (x2.toList == [117]) with h2 | h2
        · have HF := Lib.hid (HFK.out (by rw [HE.out, ← HB2.out, h2]; simp))
          have hO := HE0 _ hb1.size
          rw [World.size_alloc] at hO
          clear hN1
          go_wp2
          go_ret2
          exact ⟨_, by rw [HF.out]; rfl, by rw [HNO.out HF.out]; exact hO, hb1.alloc hb1.size _⟩
        · rcases Bool.eq_false_or_eq_true (x3.toList == [117]) with h3 | h3
          · have HF := Lib.hid (HFK.out (by rw [HE.out, ← HB2.out, ← HB3.out, h2, h3]; simp))
            have hO := HE0 _ hb1.size
            rw [World.size_alloc] at hO
            clear hN1
            go_wp2
            go_ret2
            exact ⟨_, by rw [HF.out]; rfl, by rw [HNO.out HF.out]; exact hO, hb1.alloc hb1.size _⟩
          · have HG := Lib.hid (HM.out (by rw [HE.out, ← HB2.out, ← HB3.out, h2, h3, decide_eq_false HK1.out]; rfl))
            clear hN1
            go_wp2
            go_roundw
            case rel => exact ⟨k + 1, by omega, by go_num, HG.out, hb1⟩
            case measure => simp [RowKit.intOf]; omega
    · have HMD := Lib.hid (HGD.out (fun j hj => hm.out j hj (by omega)))
      clear hcell
      go_wp2_with fail
      refine (HDC.out _ hb).mono ?_
      rintro e w2 ⟨v2, rfl, ho2, hb2⟩
      have hB2 := hb.trans (hb2.mono hbs)
      have hs2 := hB2.size
      have ho3 := own_more ho2 hbs
      clear ho2 hb2
      go_wp2_with fail
      refine (HSV.out xs _ _ (HX.out _ hB2)).mono ?_
      rintro e w3 ⟨rfl, hb3⟩
      have ho4 := own_keep ho3 hb3
      have hB3 := hB2.trans (hb3.mono hs2)
      have hs3 := hB3.size
      have hO := HE0 w3 hs3
      clear ho3 hb3
      rcases Bool.eq_false_or_eq_true (svalid xs) with h1 | h1
      · rw [h1]
        have hrd : RdS w3 v2 (mkD xs) := Rd.of_own ho4
        rcases Bool.eq_false_or_eq_true (svalid (mkD xs)) with h2 | h2
        · have HF : Hid (mdB xs = true) := by show _ = _; rw [HMD.out, h1, h2]; rfl
          have HY := Lib.hid (HYS.out HF.out)
          go_wp2_with (go_at_call 64; refine (HSV.out _ _ _ hrd).mono ?_; rintro e w4 ⟨rfl, hb4⟩; refine held ?_)
          unfold Held
          have ho5 := own_keep ho4 hb4
          have hB4 := hB3.trans (hb4.mono hs3)
          clear ho4 hb4 hrd hO h1 h2
          go_wp2
          go_ret2
          exact ⟨_, by rw [HF.out]; rfl, by rw [HY.out]; exact ho5, hB4⟩
        · have HF : Hid (mdB xs = false) := by show _ = _; rw [HMD.out, h1, h2]; rfl
          go_wp2_with (go_at_call 64; refine (HSV.out _ _ _ hrd).mono ?_; rintro e w4 ⟨rfl, hb4⟩; refine held ?_)
          unfold Held
          have hB4 := hB3.trans (hb4.mono hs3)
          have hO4 := HE0 w4 hB4.size
          clear ho4 hb4 hrd hO h1 h2
          go_wp2
          go_ret2
          exact ⟨_, by rw [HF.out]; rfl, by rw [HNO.out HF.out]; exact hO4, hB4.alloc hB4.size _⟩
      · rw [h1]
        have HF : Hid (mdB xs = false) := by show _ = _; rw [HMD.out, h1]; rfl
        clear ho4 h1
        go_wp2
        go_ret2
        exact ⟨_, by rw [HF.out]; rfl, by rw [HNO.out HF.out]; exact hO, hB3.alloc hB3.size _⟩
end Go.Proofs.Ytogkodjlbdlgjaa
namespace Go.PD
open Go.PM Go.RowKit
theorem mdS_sh {xs : List St} : shS 70 (mdS xs) := by
  unfold mdS
  split
  · next h =>
    have hB := h
    unfold mdB at h
    simp only [Bool.and_eq_true, decide_eq_true_eq] at h
    have hv : svalid (mkD xs) = true := by rw [mkD_valid h.1, decide_eq_true h.2.2.2]
    refine ⟨by omega, fun x hx => ?_⟩
    have := ok_sizes (sv_mem hv x hx)
    omega
  · exact ⟨by simp, by simp⟩
end Go.PD
namespace Go.Proofs.Ytogkodjlbdlgjaa
open Go.RowKit Go.PM Go.PD
attribute [local go_sem] Oper.semAt_some

set_option maxHeartbeats 800000 in
theorem drawIsSlot_c (w : World) (v : Value) (n : Nat) (hv : RdB w w.heap.size v n) :
    Calls Try.prog 21 #[v] w fun e w' => ∃ s, e = .returned (.string s) ∧ s.size ≤ 40 ∧ Below w.heap.size w w' := by
  have HO := Lib.hid (l13Open_c w v n hv)
  go_enter Try.func21, Try.ntmps21
  go_wp2_with fail
  refine HO.out.mono ?_
  rintro e w1 ⟨r, rfl, R1, b1⟩
  have hs1 := b1.size
  have hB := R1.1
  have HA := Lib.hid (l1Any_c w1 _ r 0 R1 (by omega))
  go_wp2_with fail
  refine HA.out.mono ?_
  rintro e w3 ⟨s, rfl, hz, R3, g3⟩
  have b3 : Below w.heap.size w w3 := b1.trans (below_grown g3 (by omega) (fun g e => by cases e; exact hB))
  go_wp2
  go_ret
  exact ⟨s, rfl, hz, b3⟩
set_option maxHeartbeats 800000 in
theorem drawSlotTraffic_c (w : World) (v : Value) (n : Nat) (hv : RdB w w.heap.size v n) :
    Calls Try.prog 28 #[v] w fun e w' => ∃ u xs, e = .returned u ∧ w'.ownsRow w.heap.size 67 3 u xs.length (scells xs) ∧ shS 70 xs ∧ Below w.heap.size w w' := by
  have HO := Lib.hid (l13Open_c w v n hv)
  go_enter Try.func28, Try.ntmps28
  go_wp2_with fail
  refine HO.out.mono ?_
  rintro e w1 ⟨r, rfl, R1, b1⟩
  have hs1 := b1.size
  have hB := R1.1
  have HS := Lib.hid (l8Steps_c w1 _ r 0 R1 (by omega))
  go_wp2_with fail
  refine HS.out.mono ?_
  rintro e w2 ⟨u, xs, p', rfl, ho, hsh, R2, hp, g2⟩
  have HSH := Lib.hid hsh
  have ho2 := own_more ho hs1
  have b2 : Below w.heap.size w w2 := b1.trans (below_grown g2 hs1 (fun g e => by cases e; exact hB))
  clear HO HS hsh
  go_wp2
  go_ret
  exact ⟨_, xs, rfl, ho2, HSH.out, b2⟩
set_option maxHeartbeats 800000 in
theorem drawFreeRegisters_c (w : World) (v : Value) (n : Nat) (hv : RdB w w.heap.size v n) :
    Calls Try.prog 31 #[v] w fun e w' => ∃ u xs, e = .returned u ∧ w'.ownsRow w.heap.size 65 2 u xs.length (mcells xs) ∧ (xs.length ≤ 65 ∧ ∀ m ∈ xs, m.1.size ≤ 64 ∧ m.2.size ≤ 64) ∧ Below w.heap.size w w' := by
  have HO := Lib.hid (l13Open_c w v n hv)
  go_enter Try.func31, Try.ntmps31
  go_wp2_with fail
  refine HO.out.mono ?_
  rintro e w1 ⟨r, rfl, R1, b1⟩
  have hs1 := b1.size
  have hB := R1.1
  have HS := Lib.hid (l8Some_c w1 _ r 0 R1 (by omega))
  go_wp2_with fail
  refine HS.out.mono ?_
  rintro e w2 ⟨u, xs, p', rfl, ho, hsh, R2, hp, g2⟩
  have HSH := Lib.hid hsh
  have ho2 := own_more ho hs1
  have b2 : Below w.heap.size w w2 := b1.trans (below_grown g2 hs1 (fun g e => by cases e; exact hB))
  clear HO HS hsh
  go_wp2
  go_ret
  exact ⟨_, xs, rfl, ho2, HSH.out, b2⟩
set_option maxHeartbeats 1600000 in
theorem drawIsDirect_c (w : World) (v : Value) (n : Nat) (hv : RdB w w.heap.size v n) :
    Calls Try.prog 16 #[v] w fun e w' => ∃ u xs, e = .returned u ∧ w'.ownsRow w.heap.size 67 3 u xs.length (scells xs) ∧ shS 70 xs ∧ Below w.heap.size w w' := by
  have HO := Lib.hid (l13Open_c w v n hv)
  go_enter Try.func16, Try.ntmps16
  go_wp2_with fail
  refine HO.out.mono ?_
  rintro e w1 ⟨r, rfl, R1, b1⟩
  have hs1 := b1.size
  have hB := R1.1
  have HS := Lib.hid (l8Steps_c w1 _ r 0 R1 (by omega))
  go_wp2_with fail
  refine HS.out.mono ?_
  rintro e w2 ⟨u, xs, p', rfl, ho, hsh, R2, hp, g2⟩
  have HSH := Lib.hid hsh
  have hlt : r < w1.heap.size := by obtain ⟨_, _, v, n, _, _, h⟩ := R1; exact h.lt
  have ho2 := own_more ho hs1
  have b2 : Below w.heap.size w w2 := b1.trans (below_grown g2 hs1 (fun g e => by cases e; exact hB))
  have hs2 := b2.size
  have hs12 := g2.size
  have HM := Lib.hid (spMakeDirect_c xs u w2 (Rd.of_own ho2) (by have := hsh.1; omega))
  have HMS := Lib.hid (mdS_sh (xs := xs))
  have hneu : u.ownBlock ≠ some r := fun e => by have := own_block_ge ho r e; omega
  clear HO HS hsh g2 b1 ho
  go_wp2_with fail
  refine HM.out.mono ?_
  rintro e w3 ⟨u3, rfl, ho3, hb3⟩
  have R3 := R2.keep hb3
  have ho4 := own_keep ho2 hb3
  have b3 := b2.trans (hb3.mono hs2)
  have ho5 := own_more ho3 hs2
  have hs3 := b3.size
  have hs23 := hb3.size
  have hne3 : u3.ownBlock ≠ some r := fun e => by have := own_block_ge ho3 r e; omega
  clear HM hb3 ho3 b2 R2
  generalize hmd : mdB xs = md at *
  cases md with
  | true =>
    have HP := Lib.hid (pick_c w3 _ r 2 p' R3 (by omega) (by omega) (by omega))
    go_wp2_with fail
    refine HP.out.mono ?_
    rintro e w4 ⟨k, rfl, k0, k1, R4, g4⟩
    have hB4 : Below w.heap.size w w4 := b3.trans (below_grown g4 hs3 (fun g e => by cases e; exact hB))
    have ho6 := own_grown ho5 g4 (.inl hne3)
    have ho7 := own_grown ho4 g4 (.inl hneu)
    clear HP ho4 ho5 g4 R3
    by_cases h0 : k = 0
    · subst h0
      go_wp2
      go_ret
      exact ⟨_, mdS xs, rfl, ho6, HMS.out, hB4⟩
    · have t0 : (k == 0) = false := by simpa using h0
      go_wp2
      go_ret
      exact ⟨_, xs, rfl, ho7, HSH.out, hB4⟩
  | false =>
    go_wp2
    go_ret
    exact ⟨_, xs, rfl, ho4, HSH.out, b3⟩
set_option maxRecDepth 100000 in
set_option maxHeartbeats 1600000 in
theorem drawMakeDirect_c (w : World) (v : Value) (n : Nat) (hv : RdB w w.heap.size v n) :
    Calls Try.prog 13 #[v] w fun e w' => ∃ u xs, e = .returned u ∧ w'.ownsRow w.heap.size 67 3 u xs.length (scells xs) ∧ shS 70 xs ∧ Below w.heap.size w w' := by
  have HO := Lib.hid (l13Open_c w v n hv)
  have HMV := Lib.hid (fun W => l8Move_c ⟨#[65]⟩ ⟨#[66]⟩ W)
  go_enter Try.func13, Try.ntmps13
  go_wp2_with fail
  refine HO.out.mono ?_
  rintro e w1 ⟨r, rfl, R1, b1⟩
  have hs1 := b1.size
  have hB := R1.1
  have HP := Lib.hid (pick_c w1 _ r 20 0 R1 (by omega) (by omega) (by omega))
  go_wp2_with fail
  refine HP.out.mono ?_
  rintro e w2 ⟨k, rfl, k0, k1, R2, g2⟩
  have hB2 : Below w.heap.size w w2 := b1.trans (below_grown g2 hs1 (fun g e => by cases e; exact hB))
  have hs2 := hB2.size
  clear HO HP
  by_cases h0 : k = 0
  · subst h0
    have hE := World.ownsRow_lit (e := 67) (base := w.heap.size) (size := 3) w2 #[] 0 hs2 (Nat.zero_le _) rfl
    have RE := R2.keep ((Below.refl _ _).alloc (Nat.le_refl _) (.cells #[] 67))
    have BE := hB2.alloc hs2 (.cells #[] 67)
    have hsE := BE.size
    go_wp2_with fail
    refine (num_c _ w.heap.size r (w2.heap.size + 1) 2 (0 + 1) (fun x => 0 ≤ x ∧ x ≤ 31) (RE.keep ((Below.refl _ _).alloc (Nat.le_refl _) _)) (by decide) (by decide) (by omega) (by
      have := Lits.ints (w2.alloc (.cells #[] 67)) 3 #[.int .i64 30, .int .i64 31] 31 (by rfl)
      rw [World.size_alloc] at this; exact this) (by have : r < w2.heap.size := by obtain ⟨_, _, v, n, _, _, h⟩ := R2; exact h.lt
                                                     omega)).mono ?_
    rintro e w3 ⟨x, rfl, ⟨hx1, hx2⟩, R3, g3⟩
    obtain ⟨X, rfl⟩ := Int.eq_ofNat_of_zero_le hx1
    have hlr : r < w2.heap.size := by obtain ⟨_, _, v, n, _, _, h⟩ := R2; exact h.lt
    have ho3 := own_grown (own_keep hE ((Below.refl _ _).alloc (Nat.le_refl _) (.cells #[.int .i64 30, .int .i64 31] 3))) g3 (.inl (fun e => by have : w2.heap.size = r := Option.some.inj e; omega))
    have BA := BE.alloc hsE (.cells #[.int .i64 30, .int .i64 31] 3)
    have hB3 := BA.trans (below_grown g3 (by simp; omega) (fun g e => by cases e; exact hB))
    clear hE RE BE BA g3 R3 R2 R1 g2 b1 HMV hB2
    have HMV := Lib.hid (fun W => l8Move_c ⟨#[65]⟩ ⟨#[66]⟩ W)
    go_wp2
    go_loopw [4, 14] (fun o i wr => ∃ (j : Nat) (xs : List St), j ≤ X ∧ i = .int .i64 j ∧ xs.length = j ∧ Hid (∀ x ∈ xs, x.2.1.size ≤ 64 ∧ x.2.2.size ≤ 64) ∧ wr.ownsRow w.heap.size 67 3 o xs.length (scells xs) ∧ Below w.heap.size w wr) (fun _ i _ => X - (intOf i).toNat)
    case atStart => exact ⟨0, [], by omega, rfl, rfl, (fun m hm => by cases hm), ho3, hB3⟩
    case round =>
      clear ho3 hB3
      obtain ⟨j, xs, hj, rfl, hxl, hxs, ho, hb⟩ := hrel
      have hbs := hb.size
      by_cases hlt : j < X
      · have i1 : (j : Int) < (X : Int) := by omega
        have HXA : Hid (∀ x ∈ xs ++ [((0 : Int), (⟨#[65]⟩ : ByteArray), (⟨#[66]⟩ : ByteArray))], x.2.1.size ≤ 64 ∧ x.2.2.size ≤ 64) := fun x hx => by
          rcases List.mem_append.1 hx with h | h
          · exact hxs.out x h
          · have e : x = (0, ⟨#[65]⟩, ⟨#[66]⟩) := by simpa using h
            rw [e]
            exact ⟨by show 1 ≤ 64; omega, by show 1 ≤ 64; omega⟩
        go_wp2_with fail
        refine (HMV.out _).mono ?_
        rintro e w4 ⟨rfl, hb4⟩
        have ho4 := own_keep ho hb4
        have hB4 := hb.trans (hb4.mono hbs)
        have hs4 := hB4.size
        have hnw := cells_new w4 #[.int .i64 0, .string ⟨#[65]⟩, .string ⟨#[66]⟩] 67
        clear ho hb hb4 hxs
        go_wp2_with (at_builtin; refine held ?_)
        unfold Held
        refine app_sts rfl (.tmp 16) (.tmp 18) rfl w.heap.size u4 xs [(0, ⟨#[65]⟩, ⟨#[66]⟩)] ⟨w4.heap.size, 0, none⟩ 1 1 rfl (by decide) (by rfl) (by rfl) (own_keep ho4 ((Below.refl _ _).alloc (Nat.le_refl _) _)) hnw (by simp; omega) (by simp; omega) ?_
        intro v' w5 hown5 hgrow5
        have hb5 := (hB4.alloc hs4 (.cells #[.int .i64 0, .string ⟨#[65]⟩, .string ⟨#[66]⟩] 67)).trans (below_grown hgrow5 (B := w.heap.size) (by simp; omega) (own_block_ge ho4))
        clear hgrow5 hnw ho4 hB4
        go_wp2
        go_roundw
        case rel => exact ⟨j + 1, xs ++ [(0, ⟨#[65]⟩, ⟨#[66]⟩)], by omega, by go_num, by simp; omega, HXA, hown5, hb5⟩
        case measure => simp [intOf]; omega
      · have HL : Hid (xs.length ≤ 70) := by show _ ≤ _; omega
        go_wp2
        go_ret
        exact ⟨_, xs, rfl, ho, ⟨HL.out, hxs.out⟩, hb⟩
  · have t0 : (k == 0) = false := by simpa using h0
    have HS := Lib.hid (l8Steps_c w2 _ r (0 + 1) R2 (by omega))
    go_wp2_with fail
    refine HS.out.mono ?_
    rintro e w3 ⟨u, xs, p', rfl, ho, hsh, R3, hp, g3⟩
    have HSH := Lib.hid hsh
    have ho2 := own_more ho hs2
    have b3 : Below w.heap.size w w3 := hB2.trans (below_grown g3 hs2 (fun g e => by cases e; exact hB))
    clear HS hsh
    go_wp2
    go_ret
    exact ⟨_, xs, rfl, ho2, HSH.out, b3⟩
end Go.Proofs.Ytogkodjlbdlgjaa
namespace Go.PD
open Go.PM Go.RowKit Go.Lib
/-- states that differ in the second spare cell at most -/
def agU (f g : Nat → UInt8) : Prop := ∀ c, c < 10 → f c = g c
theorem cidx_u : cidx spU = 10 := by decide +kernel
theorem cidx_inj {a b : ByteArray} (ha : isC a = true) (hb : isC b = true) (e : cidx a = cidx b) : a = b := by
  obtain ⟨c, rfl⟩ := one_of_size (isC_size ha)
  obtain ⟨d, rfl⟩ := one_of_size (isC_size hb)
  have h1 := (cidx_one (c := c) (by simpa [isC] using ha)).2.2
  have h2 := (cidx_one (c := d) (by simpa [isC] using hb)).2.2
  rw [e] at h1
  rw [← h1, h2]
theorem cidx_lt10 {a : ByteArray} (ha : isC a = true) (hne : a ≠ spU) : cidx a < 10 := by
  have h1 := cidx_lt ha
  have h2 : cidx a ≠ 10 := fun e => hne (cidx_inj ha isC_u (e.trans cidx_u.symm))
  omega
theorem rdS_ag {f g : Nat → UInt8} (h : agU f g) {a : ByteArray} (_ha : okC a = true) (hne : a ≠ spU) : rdS f a = rdS g a := by
  by_cases hc : isC a = true
  · rw [rdS_cell hc, rdS_cell hc]; exact h _ (cidx_lt10 hc hne)
  · have hc' : isC a = false := by simpa using hc
    rw [rdS_digit hc', rdS_digit hc']
theorem doS_mv (a b : ByteArray) (f : Nat → UInt8) : doS (0, a, b) f = updS f (cidx a) (rdS f b) := if_neg (fun h => absurd (show (0 : Int) = 1 from h) (by decide))
theorem doS_sw1 (a b : ByteArray) (f : Nat → UInt8) : doS (1, a, b) f = Go.PM.swS f (cidx a) (cidx b) := if_pos rfl
theorem doS_ag {x : St} (hx : stOk x = true) (h1 : x.2.1 ≠ spU) (h2 : x.2.2 ≠ spU) {f g : Nat → UInt8} (h : agU f g) : agU (doS x f) (doS x g) := by
  obtain ⟨k, a, b⟩ := x
  intro c hc
  rcases stOk_kind hx with rfl | rfl
  · rw [doS_mv, doS_mv, rdS_ag h (stOk_move hx).2 h2]
    unfold updS
    split
    · rfl
    · exact h c hc
  · rw [doS_sw1, doS_sw1]
    have i1 := cidx_lt10 (stOk_swap hx).1 h1
    have i2 := cidx_lt10 (stOk_swap hx).2 h2
    unfold Go.PM.swS
    split
    · exact h _ i2
    · split
      · exact h _ i1
      · exact h c hc
theorem doS_far {a b : ByteArray} (_ha : slB a = true) (hb : slB b = true) {f g : Nat → UInt8} (h : agU f g) : agU (doS (0, a, spU) (doS (0, spU, b) f)) (doS (0, a, b) g) := by
  have hbu : b ≠ spU := fun e => by rw [e, slB_u] at hb; cases hb
  intro c hc
  rw [doS_mv, doS_mv, doS_mv]
  have e1 : rdS (updS f (cidx spU) (rdS f b)) spU = rdS f b := by
    rw [rdS_cell isC_u]; unfold updS; rw [if_pos rfl]
  rw [e1, rdS_ag h (isC_okC (slB_isC hb)) hbu]
  show (if c = cidx a then _ else _) = (if c = cidx a then _ else _)
  split
  · rfl
  · unfold updS
    rw [if_neg (by rw [cidx_u]; omega)]
    exact h c hc
def fold (xs : List St) (f : Nat → UInt8) : Nat → UInt8 := xs.foldl (fun g x => doS x g) f
theorem runS_fold (xs : List St) (f : Nat → UInt8) : runS xs xs.length f = fold xs f := by unfold runS fold; rw [List.take_length]
theorem fold_two {x : St} (hx : stOk x = true) (hb : badX x = false) {f g : Nat → UInt8} (h : agU f g) : agU (fold (two x) f) (doS x g) := by
  unfold badX at hb
  rw [Bool.or_eq_false_iff, Bool.or_eq_false_iff, decide_eq_false_iff_not, decide_eq_false_iff_not] at hb
  cases hf : far x with
  | false => rw [two_near hf]; exact doS_ag hx hb.2.1 hb.2.2 h
  | true =>
    rw [two_far hf]
    have hk := far_kind hx hb.1 hf
    obtain ⟨k, a, b⟩ := x
    obtain rfl : k = 0 := hk
    rw [far_move 0 a b (by decide), Bool.and_eq_true] at hf
    exact doS_far hf.1 hf.2 h
theorem fold_mkD : ∀ (xs : List St) {f g : Nat → UInt8}, (∀ x ∈ xs, stOk x = true ∧ badX x = false) → agU f g → agU (fold (mkD xs) f) (fold xs g)
  | [], _, _, _, h => h
  | x :: xs, f, g, hx, h => by
    have e : mkD (x :: xs) = two x ++ mkD xs := by simp [mkD]
    rw [e]
    unfold fold
    rw [List.foldl_append, List.foldl_cons]
    have h1 := hx x (List.mem_cons_self ..)
    exact fold_mkD xs (fun y hy => hx y (List.mem_cons_of_mem _ hy)) (fold_two h1.1 h1.2 h)
theorem md_bad {xs : List St} (h : mdB xs = true) : ∀ x ∈ xs, badX x = false := fun x hx => by
  obtain ⟨k, hk, rfl⟩ := List.getElem_of_mem hx
  cases hb : badX xs[k] with
  | false => rfl
  | true => rw [bad_no k hk hb] at h; cases h
theorem md_sv {xs : List St} (h : mdB xs = true) : svalid xs = true ∧ svalid (mkD xs) = true := by
  have := md_good (md_bad h)
  rw [h] at this
  rw [← Bool.and_eq_true]; exact this.symm
theorem md_effG {xs : List St} (h : mdB xs = true) (p : Nat) (hp : p < 9) : effG (mkD xs) p = effG xs p := by
  unfold effG
  rw [runS_fold, runS_fold]
  exact fold_mkD xs (fun x hx => ⟨sv_mem (md_sv h).1 x hx, md_bad h x hx⟩) (fun _ _ => rfl) p (by omega)
theorem md_effL {xs : List St} (h : mdB xs = true) : effL (effG (mkD xs)) 9 = effL (effG xs) 9 := by
  unfold effL effA
  refine List.map_congr_left fun p hp => ?_
  rw [md_effG h p (by simpa using hp)]
/-- direct steps do the same -/
theorem md_eff {xs : List St} (h : mdB xs = true) : effOk (mkD xs) = effOk xs ∧ effM (mkD xs) = effM xs := by
  have e1 : effOk (mkD xs) = effOk xs := by
    unfold effOk
    rw [md_effL h, (md_sv h).1, (md_sv h).2]
  refine ⟨e1, ?_⟩
  unfold effM
  rw [e1, md_effL h]
theorem two_dir (x : St) : ∀ y ∈ two x, far y = false := by
  intro y hy
  cases hf : far x with
  | false => rw [two_near hf, List.mem_singleton] at hy; rw [hy]; exact hf
  | true =>
    rw [two_far hf] at hy
    simp only [List.mem_cons, List.not_mem_nil, or_false] at hy
    rcases hy with rfl | rfl
    · rw [far_move 0 _ _ (by decide), slB_u]; rfl
    · rw [far_move 0 _ _ (by decide), slB_u, Bool.and_false]
theorem mkD_dir (xs : List St) : ∀ y ∈ mkD xs, far y = false := by
  intro y hy
  unfold mkD at hy
  obtain ⟨x, _, hy⟩ := List.mem_flatMap.1 hy
  exact two_dir x y hy
theorem md_dir {xs : List St} (h : mdB xs = true) : dirB (mkD xs) = true := by
  rw [dir_all (fun k hk => mkD_dir xs _ (List.getElem_mem hk))]
  exact (md_sv h).2
theorem mkD_near_all {xs : List St} (h : ∀ x ∈ xs, far x = false) : mkD xs = xs := by
  induction xs with
  | nil => rfl
  | cons x xs ih =>
    have e : mkD (x :: xs) = two x ++ mkD xs := by simp [mkD]
    rw [e, two_near (h x (List.mem_cons_self ..)), ih (fun y hy => h y (List.mem_cons_of_mem _ hy))]
    rfl
/-- direct ones stay -/
theorem md_again (xs : List St) : mdS (mkD xs) = [] ∨ mdS (mkD xs) = mkD xs := by
  unfold mdS
  split
  · right; exact mkD_near_all (mkD_dir xs)
  · exact .inl rfl
theorem md_longer (xs : List St) : xs.length ≤ (mkD xs).length := (mkD_len xs).1
theorem dir_md {xs : List St} (h : mdB xs = false) : mdS xs = [] := mdS_no h
end Go.PD
namespace Go.PM
open Go.RowKit
theorem effM_drop {xs : List St} (h : svalid xs = true) : effM xs = dropM (effL (effG xs) 9) := by
  rw [effM, effOk, h, Bool.true_and]; rfl
theorem effM_none {xs : List St} (h : svalid xs = false) : effM xs = [] := by
  rw [effM, effOk, h]; rfl
theorem effOk_none {xs : List St} (h : svalid xs = false) : effOk xs = false := by
  rw [effOk, h]; rfl
end Go.PM
namespace Go.Proofs.Ytogkodjlbdlgjaa
open Go.RowKit Go.PM
attribute [local go_sem] Oper.semAt_some

set_option maxRecDepth 100000 in
set_option maxHeartbeats 2000000 in
theorem imEffectOf_c (xs : List St) (v : Value) (w : World) (hx : RdS w v xs) :
    Calls Try.prog 20 #[v] w fun e w' => ∃ v', e = .returned (.tuple #[v', .bool (effOk xs)]) ∧ w'.ownsRow w.heap.size 65 2 v' (effM xs).length (mcells (effM xs)) ∧ Below w.heap.size w w' := by
  have hsv := Lib.hid (imSequenceValid_c xs v w hx)
  rcases Bool.eq_false_or_eq_true (svalid xs) with h1 | h1
  · have HV : ∀ k (hk : k < xs.length), stOk xs[k] = true := fun k hk => svalid_at h1 k hk
    have HIO : Hid (∀ W, Below w.heap.size w W → Calls Try.prog 67 #[stV nmS, v] W fun e w' => e = .returned (stV (effG xs)) ∧ Below W.heap.size W w') :=
      fun W hW => inOrder_c xs HV v nmS W (hx.below hW)
    have HTX := Lib.hid (fun W => text_c (effG xs) W)
    have HX := Lib.hid (fun k hk => stB_cell (effG xs) k hk)
    have HOK := Lib.hid (show effOk xs = mvalid (effL (effG xs) 9) by rw [effOk, h1, Bool.true_and])
    have HM := Lib.hid (effM_drop h1)
    have hsz : (stB (effG xs)).size = 11 := rfl
    have H1 := Lib.hid h1
    clear h1 hx HV
    generalize effG xs = g at *
    generalize stB g = t at *
    refine (callsIn_wide (n := 5)).1 ?_
    refine callsIn_of_wp_marks Try.func20 rfl trivial ?_ rfl
    simp only [Try.ntmps20, List.size_toArray, List.length_cons, List.length_nil, Nat.reduceAdd, Nat.reduceSub, Array.replicate_succ, Array.replicate_zero, List.push_toArray, List.append_toArray, List.nil_append, List.cons_append]
    gi_wp2_with fail
    refine ⟨trivial, callsIn_wide.2 (hsv.out.mono ?_)⟩
    rintro e w1 ⟨rfl, hb1⟩
    rw [H1.out]
    gi_wp2_with fail
    refine ⟨trivial, callsIn_wide.2 ((stateOfNames_c _).mono ?_)⟩
    rintro e w2 ⟨rfl, hb2⟩
    have b2 := hb1.trans (hb2.mono hb1.size)
    gi_wp2_with fail
    refine ⟨trivial, callsIn_wide.2 ((HIO.out _ b2).mono ?_)⟩
    rintro e w3 ⟨rfl, hb3⟩
    have b3 := b2.trans (hb3.mono b2.size)
    gi_wp2_with fail
    refine ⟨trivial, callsIn_wide.2 ((HTX.out _).mono ?_)⟩
    rintro e w4 ⟨rfl, hb4⟩
    have b4 := b3.trans (hb4.mono b3.size)
    have hs4 := b4.size
    clear hsv HIO HTX hb1 hb2 hb3 hb4 b2 b3
    gi_wp2
    obtain ⟨W0, hW0⟩ : ∃ W0 : World, W0 = (w4.alloc (.cells #[.string t] 9)).alloc (.cells #[.slice none 0 0] 29) := ⟨_, rfl⟩
    have hS0 : W0.heap.size = w4.heap.size + 2 := by rw [hW0]; simp only [World.size_alloc]
    have hB0 : Below w.heap.size w W0 := by rw [hW0]; (repeat' (first | (with_reducible exact Below.refl _ _) | (with_reducible assumption) | (with_reducible refine Below.alloc ?_ ?_ _) | (with_reducible refine Below.drew ?_) | (with_reducible refine Below.setCell ?_ ?_ _) | (with_reducible exact Nat.le_refl _) | omega | ((repeat (first | rewrite [World.size_alloc] | rewrite [World.size_setCell] | rewrite [World.size_drew])); omega) | (simp; omega) | (simp; done)))
    have hA1 : At W0 (w4.heap.size + 1) 29 #[.slice none 0 0] := by
      rw [hW0]; have := At.new (w4.alloc (.cells #[.string t] 9)) 29 #[.slice none 0 0]
      rwa [World.size_alloc] at this
    have hA0 : At W0 w4.heap.size 9 #[.string t] := by
      rw [hW0]; exact (At.new w4 9 #[.string t]).alloc _
    rw [← hW0]
    clear hW0
    refine range_law (F := Fence.wide) (gf := 69) (lf := #[.int .i64 9]) (lb := #[]) rfl (by decide) rfl trivial (fun args w => rfl) (encs := fun p : Nat => #[.int .i64 p]) (xs := List.range 9)
      (below_iter _ _ trivial rfl (by decide)) (fun _ => rfl)
      (fun pre W => ∃ o, At W w4.heap.size 9 #[.string t] ∧ At W (w4.heap.size + 1) 29 #[o] ∧ W.ownsRow (W0.heap.size + 2) 65 2 o (pre.map (effA g)).length (mcells (pre.map (effA g))) ∧ Below w.heap.size w W)
      (fun _ _ _ => False) ?_ (fun _ => ownFrom_pure _ _) ?_
      (fun p => { tmps := #[v, undef, .slice none 0 0, .bool false, .pointer (some ⟨w4.heap.size, 0, none⟩), .pointer (some ⟨w4.heap.size + 1, 0, none⟩), .int .i64 p, v, .bool true, .bool false, stV nmS, v, stV g, .string t, .func (.func 69) #[.int .i64 9] #[], .int .i64 p, undef, undef, undef, undef, undef, undef, undef, undef, undef, undef, undef, undef, undef, undef, undef], defers := [] }) ?_ ?_ ?_ ?_
    · rintro s A A' row ⟨o, k1, k2, k3, k4⟩ hg hr
      exact ⟨o, at_turn k1 hg (fun r e => (hr r e).2), at_turn k2 hg (fun r e => (hr r e).2), row_turn k3 hg (fun r e => (hr r e).2), k4.trans (below_grown hg k4.size (fun g e => by have := (hr g e).1; omega))⟩
    · exact ⟨_, hA0, hA1, ⟨rfl, .inl ⟨rfl, rfl⟩⟩, hB0⟩
    · intro l p W Kc hK
      gi_wp2
      exact hK
    · rintro l2 pre p A ⟨o, k1, k2, k3, k4⟩ hp hsz2
      obtain ⟨hpl, hp9⟩ := pre_len pre p hp
      have i0 : (0 : Int) ≤ (p : Int) := by omega
      have i1 : (p : Int) < 9 := by omega
      have hnm := fun W' => name_c p hp9 W'
      have hex := HX.out p (by omega)
      have c1 : A.drew.cell? ⟨w4.heap.size, 0, none⟩ = some (.string t) := k1.cell 0
      have c2 : A.drew.cell? ⟨w4.heap.size + 1, 0, none⟩ = some o := k2.cell 0
      have HEA : Hid ((pre ++ [p]).map (effA g) = pre.map (effA g) ++ [(nm p, ⟨#[g p]⟩)]) := by show _ = _; simp [effA]
      have hln : (pre.map (effA g)).length = pre.length := by simp
      generalize (⟨#[g p]⟩ : ByteArray) = q at *
      generalize nm p = a at *
      generalize pre.map (effA g) = ys at *
      have hsd : A.drew.heap.size = A.heap.size := rfl
      have j1 : At A.drew w4.heap.size 9 #[.string t] := k1
      have j2 : At A.drew (w4.heap.size + 1) 29 #[o] := k2
      have j3 : A.drew.ownsRow (W0.heap.size + 2) 65 2 o ys.length (mcells ys) := k3
      have j4 : Below w.heap.size w A.drew := k4.drew
      have hnw := two_new A.drew (.string a) (.string q) 65
      gi_wp2
      refine region_late_inRound (F := Fence.wide) (C := fun w' => w' = A.drew) (D := fun w' => w'.cell? ⟨w4.heap.size + 1, 0, none⟩ = some o) 9 rfl (by kernel_rfl) (by kernel_rfl) (by kernel_rfl) _ _ (by rfl) (by rfl) (by rfl) o (fun _ _ _ h => h) (yieldsD_load (by rfl) _ _ (by rfl) _ Try.underlying29 _ (by rfl) o) (fun w' hw => by subst hw; exact c2) rfl ?_
      simp only [List.take_succ_cons, List.take_zero, List.drop_succ_cons, List.drop_zero, Nat.reduceSub, Nat.reduceAdd]
      simp only [Act.put, List.setIfInBounds_toArray, List.set_cons_succ, List.set_cons_zero]
      gi_big_quiet_step (fail)
      refine BigFrame.wpQuietIn_want (fun _ _ _ _ => trivial) rfl (fun K hK => ?_)
      gi_big_quiet_op
      refine ⟨_, callsIn_wide.2 ((hnm _).mono (fun e w' h => ⟨h.1, h.2.symm⟩)), hK _ ?_⟩
      clear hK K
      gi_big_quiet_step (fail)
      gi_big_quiet_step (fail)
      gi_big_quiet_step (fail)
      gi_big_quiet_step (fail)
      gi_big_quiet_step (fail)
      gi_big_quiet_step (fail)
      refine wpQuietIn_nil ?_
      intro w' hw' K hK
      subst hw'
      refine sliceIn_mv (.tmp 24) rfl a q (by rfl) ?_
      refine hK _ _ ((j2.alloc _).cell 0) ?_
      clear hK K
      simp only [Act.put, List.setIfInBounds_toArray, List.set_cons_succ, List.set_cons_zero]
      refine listIn_mv rfl (.tmp 16) (.tmp 25) rfl (W0.heap.size + 2) o ys (a, q) ⟨A.drew.heap.size, 0, none⟩ 1 (by rfl) (by rfl) (own_keep j3 ((Below.refl _ _).alloc (Nat.le_refl _) _)) hnw (by omega) (by simp; omega) ?_
      intro o' W3 hown3 hgrow3
      have m2 : At W3 (w4.heap.size + 1) 29 #[o] := (j2.alloc (.cells #[.string a, .string q] 65)).grown hgrow3 (box_apart j3 j2 (by decide))
      have m1 : At W3 w4.heap.size 9 #[.string t] := (j1.alloc (.cells #[.string a, .string q] 65)).grown hgrow3 (box_apart j3 j1 (by decide))
      have d1 := m2.cell 0
      have d2 := m2.frozen 0
      have hge := own_block_ge j3
      have hK3 : KeepsFrom W0.heap.size A W3 := by
        refine ⟨Nat.le_trans (by simp) hgrow3.size, fun x ob hx1 hx2 hx3 => ?_⟩
        have hx4 := (Array.getElem?_eq_some_iff.1 hx2).1
        refine (hgrow3.block x (by simp; omega) (fun e => ?_)).trans ((Below.heap_alloc A.drew _ _ hx4).trans hx2)
        rcases k3.2 with ⟨rfl, _⟩ | ⟨g, cap, cur, rfl, _, hh, _⟩
        · cases e
        · cases e
          rw [hh] at hx2
          cases hx2
          cases hx3
      have hI3 : KeepsIn (W0.heap.size + 2) 0 A W3 := KeepsIn.zero (Nat.le_trans (by simp) hgrow3.size)
      have hB3 : Below w.heap.size w W3 := (j4.alloc j4.size _).trans (below_grown hgrow3 (by have := j4.size; simp; omega) (fun g hg => by have := hge g hg; omega))
      have hne3 := box_apart hown3 m2 (by decide)
      obtain ⟨A3, cap3, rfl, _⟩ := Rd.of_own hown3
      have n2 : At (W3.setCell ⟨w4.heap.size + 1, 0, none⟩ (.slice A3 (ys ++ [(a, q)]).length cap3)) (w4.heap.size + 1) 29 #[.slice A3 (ys ++ [(a, q)]).length cap3] := m2.set 0 _
      have n1 : At (W3.setCell ⟨w4.heap.size + 1, 0, none⟩ (.slice A3 (ys ++ [(a, q)]).length cap3)) w4.heap.size 9 #[.string t] := m1.grown (grownBy_setCell' W3 (w4.heap.size + 1) _) (by simp)
      have n3 := hown3.kept (grownBy_setCell' W3 (w4.heap.size + 1) (.slice A3 (ys ++ [(a, q)]).length cap3)) (.inr hne3.symm)
      generalize (ys ++ [(a, q)]) = zs at *
      clear hnw c1 c2 k1 k2 k3 k4 j1 j2 j3 j4 hgrow3 hge
      gi_wp2
      exact ⟨hK3.trans ((KeepsOthers.setCell _ _ _).from _), KeepsIn.zero (by rw [World.size_setCell]; exact hI3.size), _, n1, n2, by rw [HEA.out]; exact n3, hB3.setCell (by show w.heap.size ≤ w4.heap.size + 1; omega) _⟩
    · intro D W hD hI hd
      obtain ⟨o, k1, k2, k3, k4⟩ := hI
      have c3 : W.cell? ⟨w4.heap.size + 1, 0, none⟩ = some o := k2.cell 0
      have HDI := Lib.hid (imDropIdle_c (effL g 9) o W (Rd.of_own k3) (by rw [effL_len]; decide))
      clear k1 k2 k3
      gi_wp2_with fail
      refine ⟨trivial, callsIn_wide.2 (HDI.out.mono ?_)⟩
      rintro e w7 ⟨v7, rfl, ho7, hb7⟩
      have hd7 : w7.heap[D]? = some (.deferred (some [])) := (hb7.block D (Array.getElem?_eq_some_iff.1 hd).1).trans hd
      have b7 := k4.trans (hb7.mono k4.size)
      rw [← HM.out] at ho7
      rw [← HOK.out]
      have hown := own_more ho7 k4.size
      clear ho7 hb7 hd HDI
      gi_wp2
      refine ⟨by simp, .inl ⟨D, _, rfl, run_takeDeferred hd7, ?_⟩⟩
      have hW2 : (w7.putObj D (.deferred none)).ownsRow w.heap.size 65 2 v7 (effM xs).length (mcells (effM xs)) :=
        row_turn hown (grownBy_putObj' w7 D _) (fun r e => by cases e; exact ⟨_, hd7, rfl⟩)
      have hR : ∀ tmps : Array Value, tmps.getD 2 undef = v7 → tmps.getD 3 undef = .bool (effOk xs) → (results Try.f20 tmps).run Try.prog (w7.putObj D (.deferred none)) = .ok (.tuple #[v7, .bool (effOk xs)]) (w7.putObj D (.deferred none)) := fun tmps h2 h3 => by
        have h2' : tmps[2]?.getD undef = v7 := by simpa using h2
        have h3' : tmps[3]?.getD undef = .bool (effOk xs) := by simpa using h3
        simp [results, Try.results20, h2', h3']
      exact ⟨_, hR _ rfl rfl, _, rfl, hW2, b7.trans ⟨rfl, rfl, rfl, by simp [World.putObj], fun k hk => World.putObj_heap_other (by have := b7.size; omega)⟩⟩
    · intro _ _ _ _ _ _ hf
      exact hf.elim
  · have HM := Lib.hid (effM_none h1)
    have HOK := Lib.hid (effOk_none h1)
    have H1 := Lib.hid h1
    clear h1 hx
    go_enter Try.func20, Try.ntmps20
    go_wp2_with fail
    refine hsv.out.mono ?_
    rintro e w1 ⟨rfl, hb1⟩
    rw [H1.out]
    go_wp2
    go_ret2
    exact ⟨_, by rw [HOK.out]; rfl, by rw [HM.out]; exact ⟨rfl, .inl ⟨rfl, rfl⟩⟩, by (repeat' (first | (with_reducible exact Below.refl _ _) | (with_reducible assumption) | (with_reducible refine Below.alloc ?_ ?_ _) | (with_reducible refine Below.drew ?_) | (with_reducible refine Below.setCell ?_ ?_ _) | (with_reducible exact Nat.le_refl _) | omega | ((repeat (first | rewrite [World.size_alloc] | rewrite [World.size_setCell] | rewrite [World.size_drew])); omega) | (simp; omega) | (simp; done)))⟩
end Go.Proofs.Ytogkodjlbdlgjaa
namespace Go.Proofs.Ytogkodjlbdlgjaa
open Go.RowKit Go.PM
set_option maxRecDepth 100000 in
set_option maxHeartbeats 2000000 in
theorem eq_str (d : Nat) (a b : ByteArray) (W : World) : (Op.equalIn (d + 1) 9 (.string a) (.string b)).run Try.prog W = .ok (a == b) W := by
  simp [Op.equalIn, go_sem]
theorem eq_items (f g : Nat → ByteArray) (W : World) : ∀ is : List Nat, (∀ i ∈ is, i < 9) → (Op.eqItems 9999 9 1 (tabA f) (tabA g) is).run Try.prog W = .ok (is.all fun p => f p == g p) W := by
  intro is
  induction is with
  | nil => intro _; rfl
  | cons i is ih =>
    intro h
    have hi := h i (List.mem_cons_self ..)
    have h1 : (part 9 (tabA f) (i * 1)).run Try.prog W = .ok (.string (f i)) W := run_part_plain (P := Try.prog) W (by kernel_rfl) (by rw [Nat.mul_one]; exact tabC_at f i hi)
    have h2 : (part 9 (tabA g) (i * 1)).run Try.prog W = .ok (.string (g i)) W := run_part_plain (P := Try.prog) W (by kernel_rfl) (by rw [Nat.mul_one]; exact tabC_at g i hi)
    have h3 := eq_str 9998 (f i) (g i) W
    rw [Op.eqItems, Sem.run_bind, h1, Result.andThen_ok, Sem.run_bind, h2, Result.andThen_ok, Sem.run_bind, h3, Result.andThen_ok, List.all_cons]
    cases hb : (f i == g i)
    · rfl
    · rw [if_neg (by decide), ih (fun j hj => h j (List.mem_cons_of_mem _ hj)), Bool.true_and]
theorem eq_tab (f g : Nat → ByteArray) (W : World) : (Op.equal 106 (tabX f) (tabX g)).run Try.prog W = .ok ((List.range 9).all fun p => f p == g p) W := by
  have his : (Try.prog.info? 9).isSome = true := by kernel_rfl
  obtain ⟨i, hi⟩ := Option.isSome_iff_exists.1 his
  have hc : Try.prog.cellsOf 9 = 1 := by kernel_rfl
  have h := run_equalIn_array (P := Try.prog) (w := W) 9999 (t := 106) (e := 9) (n := 9) (tabA f) (tabA g) Try.underlying106 hi
  rw [hc] at h
  exact h.trans (eq_items f g W _ (fun i hi => by simpa using hi))
theorem beq_ba (a b : ByteArray) : (a == b) = decide (a = b) := by
  cases a with | mk a =>
  cases b with | mk b =>
  have h : ((ByteArray.mk a) == (ByteArray.mk b)) = (a == b) := rfl
  rw [h]
  by_cases e : a = b
  · subst e; simp
  · have : ¬ (ByteArray.mk a) = (ByteArray.mk b) := fun x => e (congrArg ByteArray.data x)
    simp [e]
theorem all_beq (f g : Nat → ByteArray) (l : List Nat) : (l.all fun p => f p == g p) = l.all fun p => decide (f p = g p) := by
  have : (fun p => f p == g p) = fun p => decide (f p = g p) := by funext p; exact beq_ba _ _
  rw [this]
end Go.Proofs.Ytogkodjlbdlgjaa
namespace Go.Proofs.Ytogkodjlbdlgjaa
open Go.RowKit Go.PM

set_option maxRecDepth 100000 in
set_option maxHeartbeats 1000000 in
/-- two moves as values are compared text by text -/
theorem eq_mv (a b c d : ByteArray) (W : World) : (Op.equalIn 10000 65 (.agg #[.string a, .string b]) (.agg #[.string c, .string d])).run Try.prog W = .ok (mvEq a b c d) W := by
  have hs : Try.prog.stoodInHeld 65 = false := by kernel_rfl
  have e1 : (a == c) = decide (a = c) := beq_ba _ _
  have e2 : (b == d) = decide (b = d) := beq_ba _ _
  have q1 := eq_str 9998 a c
  have q2 := eq_str 9998 b d
  rw [Op.equalIn]
  generalize hE : Op.equalIn 9999 = E at *
  simp only [mvEq]
  rw [e1] at q1
  rw [e2] at q2
  clear e1 e2 hE
  by_cases h1 : a = c
  · by_cases h2 : b = d
    · subst h1; subst h2
      simp at q1 q2
      simp [go_sem, hs, q1, q2]
    · subst h1
      simp [h2] at q1 q2
      simp [go_sem, hs, q1, q2, h2]
  · simp [h1] at q1
    simp [go_sem, hs, q1, h1]

set_option maxRecDepth 100000 in
set_option maxHeartbeats 1600000 in
theorem pmSame_c (xs ys : List Mv) (v u : Value) (w : World) (hx : RdM w v xs) (hy : RdM w u ys) :
    Calls Try.prog 22 #[v, u] w fun e w' => e = .returned (.bool (decide (xs = ys))) ∧ Below w.heap.size w w' := by
  obtain ⟨A, cap, rfl, hn, hc, hcell⟩ := hx.open
  obtain ⟨A', cap', rfl, hn', hc', hcell'⟩ := hy.open
  clear hx hy
  rcases Nat.lt_or_ge ys.length xs.length with hle | hle
  · have hm : min (xs.length : Int) (ys.length : Int) = ys.length := by omega
    have HLE := Lib.hid hle
    clear hle
    go_enter Try.func22, Try.ntmps22
    go_wp2
    go_loopw [11] (fun i wr => ∃ (k : Nat), k ≤ ys.length ∧ i = .int .i64 k ∧ Hid (xs.take k = ys.take k) ∧ Below w.heap.size w wr) (fun i _ => ys.length - (intOf i).toNat)
    case atStart => exact ⟨0, by omega, rfl, by show _ = _; simp, Below.refl _ _⟩
    case round =>
      obtain ⟨k, hk, rfl, ht, hb⟩ := hrel
      by_cases hlt : k < ys.length
      · have hlt1 : k < xs.length := by have := HLE.out; omega
        have hlt2 : k < ys.length := by have := HLE.out; omega
        obtain ⟨b, off, rfl, hbl, hc1, hc2⟩ := hcell k hlt1
        obtain ⟨b', off', rfl, hbl', hc1', hc2'⟩ := hcell' k hlt2
        have hd1 := (hb.cell (p := ⟨b, off + k * 2, none⟩) hbl).trans hc1
        have hd2 := (hb.cell (p := ⟨b, off + k * 2 + 1, none⟩) hbl).trans hc2
        have hd3 := (hb.cell (p := ⟨b', off' + k * 2, none⟩) hbl').trans hc1'
        have hd4 := (hb.cell (p := ⟨b', off' + k * 2 + 1, none⟩) hbl').trans hc2'
        clear hc1 hc2 hcell hc1' hc2' hcell'
        have i1 : (k : Int) < (ys.length : Int) := by omega
        go_wp2
        have hx1 : ∀ x : Ext w.heap.size wr, x.val.cell? ⟨b, off + k * 2, none⟩ = some (.string xs[k].1) := fun x => (x.property.cell (p := ⟨b, _, none⟩) hbl).trans hd1
        have hx2 : ∀ x : Ext w.heap.size wr, x.val.cell? ⟨b, off + k * 2 + 1, none⟩ = some (.string xs[k].2) := fun x => (x.property.cell (p := ⟨b, _, none⟩) hbl).trans hd2
        have hx3 : ∀ x : Ext w.heap.size wr, x.val.cell? ⟨b', off' + k * 2, none⟩ = some (.string ys[k].1) := fun x => (x.property.cell (p := ⟨b', _, none⟩) hbl').trans hd3
        have hx4 : ∀ x : Ext w.heap.size wr, x.val.cell? ⟨b', off' + k * 2 + 1, none⟩ = some (.string ys[k].2) := fun x => (x.property.cell (p := ⟨b', _, none⟩) hbl').trans hd4
        clear hd1 hd2 hd3 hd4
        have i0 : (0 : Int) ≤ (k : Int) := by omega
        have i2 : (k : Int) < xs.length := by omega
        have i3 : (k : Int) < ys.length := by omega
        have hE := fun W => eq_mv xs[k].1 xs[k].2 ys[k].1 ys[k].2 W
        refine wp_region_ext w.heap.size (by kernel_rfl) (by kernel_rfl) ?_
        repeat (go_big_quiet_step (fail))
        refine wpQuiet_nil ?_
        intro w2 hw'
        obtain ⟨xw, hxw⟩ := hw'
        have hb2 := xw.property
        rw [← hxw] at hb2
        clear hxw xw
        clear hx1 hx2 hx3 hx4 hE
        go_wp2
        · have h : (!mvEq xs[k].1 xs[k].2 ys[k].1 ys[k].2) = true := by assumption
          go_ret
          refine ⟨?_, hb.trans hb2⟩
          have : ¬ xs = ys := by
            intro e; subst e; simp [mvEq] at h
          simp [this]
        · have h : (!mvEq xs[k].1 xs[k].2 ys[k].1 ys[k].2) = false := by assumption
          go_roundw
          case rel =>
            refine ⟨k + 1, by omega, by go_num, ?_, hb.trans hb2⟩
            show _ = _
            simp [mvEq] at h
            rw [take_snoc xs k hlt1, take_snoc ys k hlt2, ht.out, Prod.ext h.1 h.2]
          case measure => simp [intOf]; omega
      · have hk' : k = ys.length := by omega
        have h2 := ht.out
        have h3 := HLE.out
        rw [hk'] at h2
        have HD : Hid (((xs.length : Int) == (ys.length : Int)) = decide (xs = ys)) := by
          show _ = _
          by_cases he : xs.length = ys.length
          · rw [List.take_of_length_le (by omega), List.take_of_length_le (by omega)] at h2
            rw [h2]; simp
          · have h4 : ¬ xs = ys := fun e => he (by rw [e])
            have h5 : ¬ ((xs.length : Int) = (ys.length : Int)) := by omega
            rw [decide_eq_false h4]
            simpa using h5
        clear h2 h3 ht
        go_wp2
        go_ret
        exact ⟨by rw [← HD.out]; rfl, hb⟩
  · have hm : min (xs.length : Int) (ys.length : Int) = xs.length := by omega
    have HLE := Lib.hid hle
    clear hle
    go_enter Try.func22, Try.ntmps22
    go_wp2
    go_loopw [11] (fun i wr => ∃ (k : Nat), k ≤ xs.length ∧ i = .int .i64 k ∧ Hid (xs.take k = ys.take k) ∧ Below w.heap.size w wr) (fun i _ => xs.length - (intOf i).toNat)
    case atStart => exact ⟨0, by omega, rfl, by show _ = _; simp, Below.refl _ _⟩
    case round =>
      obtain ⟨k, hk, rfl, ht, hb⟩ := hrel
      by_cases hlt : k < xs.length
      · have hlt1 : k < xs.length := by have := HLE.out; omega
        have hlt2 : k < ys.length := by have := HLE.out; omega
        obtain ⟨b, off, rfl, hbl, hc1, hc2⟩ := hcell k hlt1
        obtain ⟨b', off', rfl, hbl', hc1', hc2'⟩ := hcell' k hlt2
        have hd1 := (hb.cell (p := ⟨b, off + k * 2, none⟩) hbl).trans hc1
        have hd2 := (hb.cell (p := ⟨b, off + k * 2 + 1, none⟩) hbl).trans hc2
        have hd3 := (hb.cell (p := ⟨b', off' + k * 2, none⟩) hbl').trans hc1'
        have hd4 := (hb.cell (p := ⟨b', off' + k * 2 + 1, none⟩) hbl').trans hc2'
        clear hc1 hc2 hcell hc1' hc2' hcell'
        have i1 : (k : Int) < (xs.length : Int) := by omega
        go_wp2
        have hx1 : ∀ x : Ext w.heap.size wr, x.val.cell? ⟨b, off + k * 2, none⟩ = some (.string xs[k].1) := fun x => (x.property.cell (p := ⟨b, _, none⟩) hbl).trans hd1
        have hx2 : ∀ x : Ext w.heap.size wr, x.val.cell? ⟨b, off + k * 2 + 1, none⟩ = some (.string xs[k].2) := fun x => (x.property.cell (p := ⟨b, _, none⟩) hbl).trans hd2
        have hx3 : ∀ x : Ext w.heap.size wr, x.val.cell? ⟨b', off' + k * 2, none⟩ = some (.string ys[k].1) := fun x => (x.property.cell (p := ⟨b', _, none⟩) hbl').trans hd3
        have hx4 : ∀ x : Ext w.heap.size wr, x.val.cell? ⟨b', off' + k * 2 + 1, none⟩ = some (.string ys[k].2) := fun x => (x.property.cell (p := ⟨b', _, none⟩) hbl').trans hd4
        clear hd1 hd2 hd3 hd4
        have i0 : (0 : Int) ≤ (k : Int) := by omega
        have i2 : (k : Int) < xs.length := by omega
        have i3 : (k : Int) < ys.length := by omega
        have hE := fun W => eq_mv xs[k].1 xs[k].2 ys[k].1 ys[k].2 W
        refine wp_region_ext w.heap.size (by kernel_rfl) (by kernel_rfl) ?_
        repeat (go_big_quiet_step (fail))
        refine wpQuiet_nil ?_
        intro w2 hw'
        obtain ⟨xw, hxw⟩ := hw'
        have hb2 := xw.property
        rw [← hxw] at hb2
        clear hxw xw
        clear hx1 hx2 hx3 hx4 hE
        go_wp2
        · have h : (!mvEq xs[k].1 xs[k].2 ys[k].1 ys[k].2) = true := by assumption
          go_ret
          refine ⟨?_, hb.trans hb2⟩
          have : ¬ xs = ys := by
            intro e; subst e; simp [mvEq] at h
          simp [this]
        · have h : (!mvEq xs[k].1 xs[k].2 ys[k].1 ys[k].2) = false := by assumption
          go_roundw
          case rel =>
            refine ⟨k + 1, by omega, by go_num, ?_, hb.trans hb2⟩
            show _ = _
            simp [mvEq] at h
            rw [take_snoc xs k hlt1, take_snoc ys k hlt2, ht.out, Prod.ext h.1 h.2]
          case measure => simp [intOf]; omega
      · have hk' : k = xs.length := by omega
        have h2 := ht.out
        have h3 := HLE.out
        rw [hk'] at h2
        have HD : Hid (((xs.length : Int) == (ys.length : Int)) = decide (xs = ys)) := by
          show _ = _
          by_cases he : xs.length = ys.length
          · rw [List.take_of_length_le (by omega), List.take_of_length_le (by omega)] at h2
            rw [h2]; simp
          · have h4 : ¬ xs = ys := fun e => he (by rw [e])
            have h5 : ¬ ((xs.length : Int) = (ys.length : Int)) := by omega
            rw [decide_eq_false h4]
            simpa using h5
        clear h2 h3 ht
        go_wp2
        go_ret
        exact ⟨by rw [← HD.out]; rfl, hb⟩
end Go.Proofs.Ytogkodjlbdlgjaa
namespace Go.PM
def stpEq (a b : St) : Bool := decide (a = b)
theorem stpEq_no {a b : St} (h : (!stpEq a b) = true) : a ≠ b := by simpa [stpEq] using h
theorem stpEq_yes {a b : St} (h : (!stpEq a b) = false) : a = b := by simpa [stpEq] using h
end Go.PM
namespace Go.Proofs.Ytogkodjlbdlgjaa
open Go.RowKit Go.PM

set_option maxRecDepth 100000 in
set_option maxHeartbeats 1000000 in
theorem eq_mvD (d : Nat) (a b c e : ByteArray) (W : World) : (Op.equalIn (d + 2) 65 (.agg #[.string a, .string b]) (.agg #[.string c, .string e])).run Try.prog W = .ok (mvEq a b c e) W := by
  have hs : Try.prog.stoodInHeld 65 = false := by kernel_rfl
  have e1 : (a == c) = decide (a = c) := beq_ba _ _
  have e2 : (b == e) = decide (b = e) := beq_ba _ _
  have q1 := eq_str d a c
  have q2 := eq_str d b e
  rw [Op.equalIn]
  generalize hE : Op.equalIn (d + 1) = E at *
  simp only [mvEq]
  rw [e1] at q1
  rw [e2] at q2
  clear e1 e2 hE
  by_cases h1 : a = c
  · by_cases h2 : b = e
    · subst h1; subst h2
      simp at q1 q2
      simp [go_sem, hs, q1, q2]
    · subst h1
      simp [h2] at q1 q2
      simp [go_sem, hs, q1, q2, h2]
  · simp [h1] at q1
    simp [go_sem, hs, q1, h1]
theorem eq_i64 (d : Nat) (a b : Int) (W : World) : (Op.equalIn (d + 1) 3 (.int .i64 a) (.int .i64 b)).run Try.prog W = .ok (decide (a = b)) W := by
  have : (a == b) = decide (a = b) := by rw [Bool.eq_iff_iff, beq_iff_eq, decide_eq_true_eq]
  simp [Op.equalIn, go_sem, this]
set_option maxRecDepth 100000 in
set_option maxHeartbeats 1000000 in
/-- two steps as values are compared kind by kind and text by text -/
theorem eq_stp (x y : St) (W : World) : (Op.equalIn 10000 67 (.agg #[.int .i64 x.1, .string x.2.1, .string x.2.2]) (.agg #[.int .i64 y.1, .string y.2.1, .string y.2.2])).run Try.prog W = .ok (stpEq x y) W := by
  obtain ⟨k, a, b⟩ := x
  obtain ⟨l, c, e⟩ := y
  have hs : Try.prog.stoodInHeld 67 = false := by kernel_rfl
  have q0 := eq_i64 9998 k l
  have q1 := eq_mvD 9997 a b c e
  rw [Op.equalIn]
  generalize hE : Op.equalIn 9999 = E at *
  clear hE
  by_cases h1 : k = l
  · by_cases h2 : a = c ∧ b = e
    · obtain ⟨h2, h3⟩ := h2
      subst h1; subst h2; subst h3
      simp [mvEq] at q0 q1
      simp [go_sem, hs, q0, q1, stpEq]
    · subst h1
      have h3 : mvEq a b c e = false := by unfold mvEq; exact decide_eq_false h2
      have h4 : stpEq (k, a, b) (k, c, e) = false := by
        unfold stpEq
        rw [decide_eq_false_iff_not]
        intro e; cases e; exact h2 ⟨rfl, rfl⟩
      rw [h3] at q1
      simp at q0
      simp [go_sem, hs, q0, q1, h4]
  · have h4 : stpEq (k, a, b) (l, c, e) = false := by
      unfold stpEq
      rw [decide_eq_false_iff_not]
      intro e; cases e; exact h1 rfl
    simp [h1] at q0
    simp [go_sem, hs, q0, h4]

set_option maxRecDepth 100000 in
set_option maxHeartbeats 1600000 in
theorem pmSteps_c (xs ys : List St) (v u : Value) (w : World) (hx : RdS w v xs) (hy : RdS w u ys) :
    Calls Try.prog 17 #[v, u] w fun e w' => e = .returned (.bool (decide (xs = ys))) ∧ Below w.heap.size w w' := by
  obtain ⟨A, cap, rfl, hn, hc, hcell⟩ := hx.open
  obtain ⟨A', cap', rfl, hn', hc', hcell'⟩ := hy.open
  clear hx hy
  rcases Nat.lt_or_ge ys.length xs.length with hle | hle
  · have hm : min (xs.length : Int) (ys.length : Int) = ys.length := by omega
    have HLE := Lib.hid hle
    clear hle
    go_enter Try.func17, Try.ntmps17
    go_wp2
    go_loopw [11] (fun i wr => ∃ (k : Nat), k ≤ ys.length ∧ i = .int .i64 k ∧ Hid (xs.take k = ys.take k) ∧ Below w.heap.size w wr) (fun i _ => ys.length - (intOf i).toNat)
    case atStart => exact ⟨0, by omega, rfl, by show _ = _; simp, Below.refl _ _⟩
    case round =>
      obtain ⟨k, hk, rfl, ht, hb⟩ := hrel
      by_cases hlt : k < ys.length
      · have hlt1 : k < xs.length := by have := HLE.out; omega
        have hlt2 : k < ys.length := by have := HLE.out; omega
        obtain ⟨b, off, rfl, hbl, hc0, hc1, hc2⟩ := hcell k hlt1
        obtain ⟨b', off', rfl, hbl', hc0', hc1', hc2'⟩ := hcell' k hlt2
        have hd0 := (hb.cell (p := ⟨b, off + k * 3, none⟩) hbl).trans hc0
        have hd1 := (hb.cell (p := ⟨b, off + k * 3 + 1, none⟩) hbl).trans hc1
        have hd2 := (hb.cell (p := ⟨b, off + k * 3 + 2, none⟩) hbl).trans hc2
        have hd5 := (hb.cell (p := ⟨b', off' + k * 3, none⟩) hbl').trans hc0'
        have hd3 := (hb.cell (p := ⟨b', off' + k * 3 + 1, none⟩) hbl').trans hc1'
        have hd4 := (hb.cell (p := ⟨b', off' + k * 3 + 2, none⟩) hbl').trans hc2'
        clear hc0 hc1 hc2 hcell hc0' hc1' hc2' hcell'
        have i1 : (k : Int) < (ys.length : Int) := by omega
        go_wp2
        have hx0 : ∀ x : Ext w.heap.size wr, x.val.cell? ⟨b, off + k * 3, none⟩ = some (.int .i64 xs[k].1) := fun x => (x.property.cell (p := ⟨b, _, none⟩) hbl).trans hd0
        have hx1 : ∀ x : Ext w.heap.size wr, x.val.cell? ⟨b, off + k * 3 + 1, none⟩ = some (.string xs[k].2.1) := fun x => (x.property.cell (p := ⟨b, _, none⟩) hbl).trans hd1
        have hx2 : ∀ x : Ext w.heap.size wr, x.val.cell? ⟨b, off + k * 3 + 2, none⟩ = some (.string xs[k].2.2) := fun x => (x.property.cell (p := ⟨b, _, none⟩) hbl).trans hd2
        have hx5 : ∀ x : Ext w.heap.size wr, x.val.cell? ⟨b', off' + k * 3, none⟩ = some (.int .i64 ys[k].1) := fun x => (x.property.cell (p := ⟨b', _, none⟩) hbl').trans hd5
        have hx3 : ∀ x : Ext w.heap.size wr, x.val.cell? ⟨b', off' + k * 3 + 1, none⟩ = some (.string ys[k].2.1) := fun x => (x.property.cell (p := ⟨b', _, none⟩) hbl').trans hd3
        have hx4 : ∀ x : Ext w.heap.size wr, x.val.cell? ⟨b', off' + k * 3 + 2, none⟩ = some (.string ys[k].2.2) := fun x => (x.property.cell (p := ⟨b', _, none⟩) hbl').trans hd4
        clear hd0 hd1 hd2 hd3 hd4 hd5
        have i0 : (0 : Int) ≤ (k : Int) := by omega
        have i2 : (k : Int) < xs.length := by omega
        have i3 : (k : Int) < ys.length := by omega
        have hE := fun W => eq_stp xs[k] ys[k] W
        refine wp_region_ext w.heap.size (by kernel_rfl) (by kernel_rfl) ?_
        repeat (go_big_quiet_step (fail))
        refine wpQuiet_nil ?_
        intro w2 hw'
        obtain ⟨xw, hxw⟩ := hw'
        have hb2 := xw.property
        rw [← hxw] at hb2
        clear hxw xw
        clear hx0 hx1 hx2 hx3 hx4 hx5 hE
        go_wp2
        · have h : (!stpEq xs[k] ys[k]) = true := by assumption
          go_ret
          refine ⟨?_, hb.trans hb2⟩
          have : ¬ xs = ys := by
            intro e; subst e; exact stpEq_no h rfl
          simp [this]
        · have h : (!stpEq xs[k] ys[k]) = false := by assumption
          go_roundw
          case rel =>
            refine ⟨k + 1, by omega, by go_num, ?_, hb.trans hb2⟩
            show _ = _
            rw [take_snoc xs k hlt1, take_snoc ys k hlt2, ht.out, stpEq_yes h]
          case measure => simp [intOf]; omega
      · have hk' : k = ys.length := by omega
        have h2 := ht.out
        have h3 := HLE.out
        rw [hk'] at h2
        have HD : Hid (((xs.length : Int) == (ys.length : Int)) = decide (xs = ys)) := by
          show _ = _
          by_cases he : xs.length = ys.length
          · rw [List.take_of_length_le (by omega), List.take_of_length_le (by omega)] at h2
            rw [h2]; simp
          · have h4 : ¬ xs = ys := fun e => he (by rw [e])
            have h5 : ¬ ((xs.length : Int) = (ys.length : Int)) := by omega
            rw [decide_eq_false h4]
            simpa using h5
        clear h2 h3 ht
        go_wp2
        go_ret
        exact ⟨by rw [← HD.out]; rfl, hb⟩
  · have hm : min (xs.length : Int) (ys.length : Int) = xs.length := by omega
    have HLE := Lib.hid hle
    clear hle
    go_enter Try.func17, Try.ntmps17
    go_wp2
    go_loopw [11] (fun i wr => ∃ (k : Nat), k ≤ xs.length ∧ i = .int .i64 k ∧ Hid (xs.take k = ys.take k) ∧ Below w.heap.size w wr) (fun i _ => xs.length - (intOf i).toNat)
    case atStart => exact ⟨0, by omega, rfl, by show _ = _; simp, Below.refl _ _⟩
    case round =>
      obtain ⟨k, hk, rfl, ht, hb⟩ := hrel
      by_cases hlt : k < xs.length
      · have hlt1 : k < xs.length := by have := HLE.out; omega
        have hlt2 : k < ys.length := by have := HLE.out; omega
        obtain ⟨b, off, rfl, hbl, hc0, hc1, hc2⟩ := hcell k hlt1
        obtain ⟨b', off', rfl, hbl', hc0', hc1', hc2'⟩ := hcell' k hlt2
        have hd0 := (hb.cell (p := ⟨b, off + k * 3, none⟩) hbl).trans hc0
        have hd1 := (hb.cell (p := ⟨b, off + k * 3 + 1, none⟩) hbl).trans hc1
        have hd2 := (hb.cell (p := ⟨b, off + k * 3 + 2, none⟩) hbl).trans hc2
        have hd5 := (hb.cell (p := ⟨b', off' + k * 3, none⟩) hbl').trans hc0'
        have hd3 := (hb.cell (p := ⟨b', off' + k * 3 + 1, none⟩) hbl').trans hc1'
        have hd4 := (hb.cell (p := ⟨b', off' + k * 3 + 2, none⟩) hbl').trans hc2'
        clear hc0 hc1 hc2 hcell hc0' hc1' hc2' hcell'
        have i1 : (k : Int) < (xs.length : Int) := by omega
        go_wp2
        have hx0 : ∀ x : Ext w.heap.size wr, x.val.cell? ⟨b, off + k * 3, none⟩ = some (.int .i64 xs[k].1) := fun x => (x.property.cell (p := ⟨b, _, none⟩) hbl).trans hd0
        have hx1 : ∀ x : Ext w.heap.size wr, x.val.cell? ⟨b, off + k * 3 + 1, none⟩ = some (.string xs[k].2.1) := fun x => (x.property.cell (p := ⟨b, _, none⟩) hbl).trans hd1
        have hx2 : ∀ x : Ext w.heap.size wr, x.val.cell? ⟨b, off + k * 3 + 2, none⟩ = some (.string xs[k].2.2) := fun x => (x.property.cell (p := ⟨b, _, none⟩) hbl).trans hd2
        have hx5 : ∀ x : Ext w.heap.size wr, x.val.cell? ⟨b', off' + k * 3, none⟩ = some (.int .i64 ys[k].1) := fun x => (x.property.cell (p := ⟨b', _, none⟩) hbl').trans hd5
        have hx3 : ∀ x : Ext w.heap.size wr, x.val.cell? ⟨b', off' + k * 3 + 1, none⟩ = some (.string ys[k].2.1) := fun x => (x.property.cell (p := ⟨b', _, none⟩) hbl').trans hd3
        have hx4 : ∀ x : Ext w.heap.size wr, x.val.cell? ⟨b', off' + k * 3 + 2, none⟩ = some (.string ys[k].2.2) := fun x => (x.property.cell (p := ⟨b', _, none⟩) hbl').trans hd4
        clear hd0 hd1 hd2 hd3 hd4 hd5
        have i0 : (0 : Int) ≤ (k : Int) := by omega
        have i2 : (k : Int) < xs.length := by omega
        have i3 : (k : Int) < ys.length := by omega
        have hE := fun W => eq_stp xs[k] ys[k] W
        refine wp_region_ext w.heap.size (by kernel_rfl) (by kernel_rfl) ?_
        repeat (go_big_quiet_step (fail))
        refine wpQuiet_nil ?_
        intro w2 hw'
        obtain ⟨xw, hxw⟩ := hw'
        have hb2 := xw.property
        rw [← hxw] at hb2
        clear hxw xw
        clear hx0 hx1 hx2 hx3 hx4 hx5 hE
        go_wp2
        · have h : (!stpEq xs[k] ys[k]) = true := by assumption
          go_ret
          refine ⟨?_, hb.trans hb2⟩
          have : ¬ xs = ys := by
            intro e; subst e; exact stpEq_no h rfl
          simp [this]
        · have h : (!stpEq xs[k] ys[k]) = false := by assumption
          go_roundw
          case rel =>
            refine ⟨k + 1, by omega, by go_num, ?_, hb.trans hb2⟩
            show _ = _
            rw [take_snoc xs k hlt1, take_snoc ys k hlt2, ht.out, stpEq_yes h]
          case measure => simp [intOf]; omega
      · have hk' : k = xs.length := by omega
        have h2 := ht.out
        have h3 := HLE.out
        rw [hk'] at h2
        have HD : Hid (((xs.length : Int) == (ys.length : Int)) = decide (xs = ys)) := by
          show _ = _
          by_cases he : xs.length = ys.length
          · rw [List.take_of_length_le (by omega), List.take_of_length_le (by omega)] at h2
            rw [h2]; simp
          · have h4 : ¬ xs = ys := fun e => he (by rw [e])
            have h5 : ¬ ((xs.length : Int) = (ys.length : Int)) := by omega
            rw [decide_eq_false h4]
            simpa using h5
        clear h2 h3 ht
        go_wp2
        go_ret
        exact ⟨by rw [← HD.out]; rfl, hb⟩
end Go.Proofs.Ytogkodjlbdlgjaa
namespace Go.Proofs.Ytogkodjlbdlgjaa
open Go.RowKit Go.PM Go.ChangeShapes Go.WideShapes Go.Deep

theorem own : ownKnob Try.prog.godebug = none := by kernel_rfl
theorem laidOut : laidOutB Try.prog = true := by kernel_rfl

theorem exists_list {α : Type} (Q : Nat → α → Prop) : ∀ n, (∀ i, i < n → ∃ m, Q i m) → ∃ xs : List α, xs.length = n ∧ ∀ i (h : i < xs.length), Q i xs[i]
  | 0, _ => ⟨[], rfl, fun i h => absurd h (Nat.not_lt_zero _)⟩
  | n + 1, h => by
    obtain ⟨xs, hl, hx⟩ := exists_list Q n fun i hi => h i (by omega)
    obtain ⟨m, hm⟩ := h n (by omega)
    refine ⟨xs ++ [m], by simp [hl], fun i hi => ?_⟩
    by_cases h1 : i < xs.length
    · rw [List.getElem_append_left h1]; exact hx i h1
    · have h2 : i = xs.length := by simp at hi; omega
      subst h2
      rw [List.getElem_append_right (Nat.le_refl _)]
      simpa [hl] using hm

theorem rdM_mk {w : World} {ad : Addr} {cap : Nat} (xs : List Mv) (hc : xs.length ≤ cap) (hn : xs.length ≤ 9223372036854775807)
    (h : ∀ i (hi : i < xs.length), w.cell? (ad.add (i * 2)) = some (.string xs[i].1) ∧ w.cell? ((ad.add (i * 2)).add 1) = some (.string xs[i].2)) : RdM w (.slice (some ad) xs.length cap) xs := by
  refine ⟨some ad, cap, rfl, hc, hn, mcells_length xs, fun h0 => ?_⟩
  have h1 := (h 0 h0).1
  obtain ⟨b, off, spot⟩ := ad
  have hs : spot = none := by
    have := World.cell?_spot h1
    simpa [Addr.add] using this
  subst hs
  have hadd : ∀ o i, (Addr.mk b o none).add i = ⟨b, o + i, none⟩ := fun o i => by
    unfold Addr.add; split
    · next h => subst h; rfl
    · rfl
  refine ⟨b, off, rfl, ?_, fun j u hu => ?_⟩
  · rcases Nat.lt_or_ge b w.heap.size with hlt | hge
    · exact hlt
    · rw [hadd] at h1
      simp [World.cell?, Array.getElem?_eq_none hge] at h1
  · have hj : j < xs.length * 2 := by rw [← mcells_length]; exact (List.getElem?_eq_some_iff.1 hu).1
    have hk : j / 2 < xs.length := by omega
    have hm := mcells_at xs (j / 2) _ (List.getElem?_eq_getElem hk)
    have hh := h (j / 2) hk
    rw [hadd, hadd] at hh
    rcases Nat.mod_two_eq_zero_or_one j with h0 | h0
    · have e : j / 2 * 2 = j := by omega
      rw [e] at hm hh
      rw [hm.1] at hu
      rw [hh.1, hu]
    · have e : j / 2 * 2 + 1 = j := by omega
      rw [e] at hm
      rw [Nat.add_assoc, e] at hh
      rw [hm.2] at hu
      rw [hh.2, hu]

set_option maxRecDepth 100000 in
theorem open_moves {H : Type} {enc : TypeId × Value → H} {W : World} {base fuel : Nat} {spare : Nat → Bool} {held : Bool} {a : Option Addr} {n c : Nat} {x : DataW H × List MemPlace}
    (h : DataW.trod enc Try.prog W base spare held fuel 51 [.slice a n c] = some x) :
    ∃ xs : List Mv, RdM W (.slice a n c) xs ∧ ∀ m ∈ xs, m.1.size ≤ 9223372036854775807 ∧ m.2.size ≤ 9223372036854775807 := by
  rcases open_slice Try.underlying51 h with ⟨hcs, _⟩ | ⟨ad, len, cap, m, k, D, Pl, hcs, hb, hl, hm, hmm, hx, hi⟩
  · simp at hcs
    obtain ⟨rfl, rfl, rfl⟩ := hcs
    exact ⟨[], ⟨none, 0, rfl, by simp, by simp, rfl, by simp⟩, by simp⟩
  · simp at hcs
    obtain ⟨rfl, rfl, rfl⟩ := hcs
    have hC : Try.prog.cellsOf 110 = 2 := by kernel_rfl
    have hml : n ≤ m := by rw [hmm]; split <;> omega
    have hM : maxLen = 9223372036854775807 := rfl
    obtain ⟨xs, hxl, hxs⟩ := exists_list (fun i (m : Mv) => W.cell? (ad.add (i * 2)) = some (.string m.1) ∧ W.cell? ((ad.add (i * 2)).add 1) = some (.string m.2) ∧ m.1.size ≤ 9223372036854775807 ∧ m.2.size ≤ 9223372036854775807) n (fun i hin => by
      obtain ⟨cs', hc', ht⟩ := hi i (by omega)
      rw [hC] at hc'
      obtain ⟨y0, y1, k', _, hlen, h0, h1⟩ := trod_struct2 Try.underlying110 ht
      obtain ⟨_, hcl, hat⟩ := World.cells?_some hc'
      rw [hC] at hlen
      match cs', hlen with
      | [c0, c1], _ =>
        have e0 : Try.prog.cellsOf 9 = 1 := by kernel_rfl
        simp only [e0] at h0 h1
        simp at h0 h1
        obtain ⟨s, hs, _, hs1⟩ := DataW.trod_string Try.underlying9 h0
        obtain ⟨t, hta, _, ht1⟩ := DataW.trod_string Try.underlying9 h1
        simp at hs hta
        subst hs hta
        refine ⟨(s, t), ?_, ?_, hM ▸ hs1, hM ▸ ht1⟩
        · have := hat 0 (by omega)
          simpa [Addr.add] using this
        · have := hat 1 (by omega)
          simpa using this)
    subst hxl
    refine ⟨xs, rdM_mk xs hl (by omega) fun i hi => ⟨(hxs i hi).1, (hxs i hi).2.1⟩, fun m hm => ?_⟩
    obtain ⟨i, hi, rfl⟩ := List.getElem_of_mem hm
    exact (hxs i hi).2.2
end Go.Proofs.Ytogkodjlbdlgjaa
namespace Go.Proofs.Ytogkodjlbdlgjaa
open Go.RowKit Go.PM
open Go.ChangeShapes Go.WideShapes Go.Deep in
set_option maxRecDepth 100000 in
theorem open_bytes {H : Type} {enc : TypeId × Value → H} {W : World} {base fuel : Nat} {spare : Nat → Bool} {held : Bool} {a : Option Addr} {n c : Nat} {x : DataW H × List MemPlace}
    (h : DataW.trod enc Try.prog W base spare held fuel 22 [.slice a n c] = some x) : RdB W W.heap.size (.slice a n c) n := by
  rcases open_slice Try.underlying22 h with ⟨hcs, _⟩ | ⟨ad, len, cap, m, k, D, Pl, hcs, hb, hl, hm, hmm, hx, hi⟩
  · simp at hcs
    obtain ⟨rfl, rfl, rfl⟩ := hcs
    exact ⟨none, 0, rfl, by omega, by omega, fun k hk => absurd hk (Nat.not_lt_zero k)⟩
  · simp at hcs
    obtain ⟨rfl, rfl, rfl⟩ := hcs
    have hC : Try.prog.cellsOf 5 = 1 := by kernel_rfl
    have hml : n ≤ m := by rw [hmm]; split <;> omega
    have hM : maxLen = 9223372036854775807 := rfl
    have hcell : ∀ i, i < n → ∃ kk, W.cell? (ad.add i) = some (.int .u8 kk) ∧ 0 ≤ kk ∧ kk ≤ 255 := fun i hin => by
      obtain ⟨cs', hc', ht⟩ := hi i (by omega)
      rw [hC] at hc'
      obtain ⟨kk, hk, _, hwf⟩ := DataW.trod_int Try.underlying5 ht
      subst hk
      obtain ⟨_, hcl, hat⟩ := World.cells?_some hc'
      have h1 := hat 0 (by omega)
      refine ⟨kk, by simpa [Addr.add] using h1, ?_⟩
      simpa [Lit.wf, IntKind.min, IntKind.max, IntKind.signed, IntKind.bits] using hwf
    clear hi hx h
    refine ⟨some ad, c, rfl, by omega, by omega, fun i hin => ?_⟩
    obtain ⟨b, off, spot⟩ := ad
    have hs : spot = none := by
      obtain ⟨_, h0, _⟩ := hcell 0 (by omega)
      have := World.cell?_spot h0
      simpa [Addr.add] using this
    subst hs
    obtain ⟨kk, h1, hw1, hw2⟩ := hcell i hin
    have hadd : (Addr.mk b off none).add i = ⟨b, off + i, none⟩ := by
      unfold Addr.add; split
      · next h => subst h; rfl
      · rfl
    rw [hadd] at h1
    have hb : b < W.heap.size := by
      rcases Nat.lt_or_ge b W.heap.size with hlt | hge
      · exact hlt
      · simp [World.cell?, Array.getElem?_eq_none hge] at h1
    exact ⟨b, off, kk, rfl, hb, hb, h1, hw1, by omega⟩
end Go.Proofs.Ytogkodjlbdlgjaa
namespace Go.PD
open Go.PM
theorem md_again2 (xs : List St) : mdS (mkD xs) = [] ∨ (mdS (mkD xs) = mkD xs ∧ 0 < (mkD xs).length) := by
  rcases md_again xs with h | h
  · exact .inl h
  · by_cases h0 : (mkD xs).length = 0
    · left; rw [h]; exact List.length_eq_zero_iff.1 h0
    · exact .inr ⟨h, by omega⟩
end Go.PD
namespace Go.Proofs.Ytogkodjlbdlgjaa
open Go.RowKit Go.PM Go.PD
attribute [local go_sem] Oper.semAt_some
set_option maxRecDepth 100000 in
set_option maxHeartbeats 12800000 in
theorem exMakeDirect (w : World) (v0 : Value) (n0 : Nat) (hv : RdB w w.heap.size v0 n0) (v1 : Value) (n1 : Nat) (hu : RdB w w.heap.size v1 n1) :
    Calls Try.prog 3 #[v0, v1] w fun e w' => e = .returned (.bool true) ∧ Below w.heap.size w w' := by
  have hv0 := hv
  have hu0 := hu
  obtain ⟨A, cap, rfl, hc, hn, _⟩ := hv
  obtain ⟨A1, cap1, rfl, hc1, hn1, _⟩ := hu
  by_cases hbig : 1048576 < n0
  · have t : decide ((n0 : Int) > 1048576) = true := by simp; omega
    go_enter Try.func3, Try.ntmps3
    go_wp2
    go_ret
    exact ⟨rfl, Below.refl _ _⟩
  have t : decide ((n0 : Int) > 1048576) = false := by simp; omega
  by_cases hbig1 : 1048576 < n1
  · have t1 : decide ((n1 : Int) > 1048576) = true := by simp; omega
    go_enter Try.func3, Try.ntmps3
    go_wp2
    go_ret
    exact ⟨rfl, Below.refl _ _⟩
  have t1 : decide ((n1 : Int) > 1048576) = false := by simp; omega
  have HD := Lib.hid (drawMakeDirect_c w _ n0 hv0)
  have HDX := Lib.hid (fun W (hW : Below w.heap.size w W) => drawIsDirect_c W _ n1 (rdB_nowD hu0 hW))
  have HDP := Lib.hid (fun W (hW : Below w.heap.size w W) => drawIsSlot_c W _ n1 (rdB_nowD hu0 hW))
  clear hv0 hu0
  go_enter Try.func3, Try.ntmps3
  go_wp2_with fail
  refine HD.out.mono ?_
  rintro e w1 ⟨u, xs, rfl, ho, ⟨hl, hz⟩, b1⟩
  have R1 : RdS w1 u xs := Rd.of_own ho
  have HI1 := Lib.hid (fun W (R : RdS W u xs) => imMakeDirect_c xs u W R)
  have HS1 := Lib.hid (fun W (R : RdS W u xs) => spMakeDirect_c xs u W R (by omega))
  have HE1 := Lib.hid (fun W (R : RdS W u xs) => imEffectOf_c xs u W R)
  have HGM := Lib.hid (fun zs v W (R : RdS W v zs) => imMakeDirect_c zs v W R)
  have HGE := Lib.hid (fun zs v W (R : RdS W v zs) => imEffectOf_c zs v W R)
  have HID := Lib.hid (fun zs v W (R : RdS W v zs) => imIsDirect_c zs v W R)
  have HSD := Lib.hid (fun zs v W (R : RdS W v zs) => spIsDirect_c zs v W R)
  have HQ0 : Hid (∀ zs v u W, RdS W v zs → RdS W u zs → Calls Try.prog 17 #[v, u] W fun e w' => e = .returned (.bool true) ∧ Below W.heap.size W w') := fun zs v u W P Q => by
    have := pmSteps_c zs zs v u W P Q
    rwa [show decide (zs = zs) = true by simp] at this
  have HM0 : Hid (∀ zs v u W, RdM W v zs → RdM W u zs → Calls Try.prog 22 #[v, u] W fun e w' => e = .returned (.bool true) ∧ Below W.heap.size W w') := fun zs v u W P Q => by
    have := pmSame_c zs zs v u W P Q
    rwa [show decide (zs = zs) = true by simp] at this
  have HPS := Lib.hid (fun s W => isSlot_c s W)
  have HQS := Lib.hid (fun s W => spIsSlot_c s W)
  have HYS : Hid (mdB xs = true → mdS xs = mkD xs) := mdS_yes
  have HEF := Lib.hid (fun h => md_eff (xs := xs) h)
  have HDR := Lib.hid (fun h => md_dir (xs := xs) h)
  have HAG := Lib.hid (md_again2 xs)
  have HLN := Lib.hid (md_longer xs)
  clear HD ho hz
  go_wp2_with fail
  refine (HI1.out _ R1).mono ?_
  rintro e w2 ⟨vd, rfl, od, h2⟩
  have b2 := b1.trans (h2.mono b1.size)
  have R2 := R1.below h2
  have D2 : RdS w2 vd (mdS xs) := Rd.of_own od
  clear od h2 b1 R1 HI1
  go_wp2_with fail
  refine (HS1.out _ R2).mono ?_
  rintro e w3 ⟨ve, rfl, oe, h3⟩
  have b3 := b2.trans (h3.mono b2.size)
  have R3 := R2.below h3
  have D3 := D2.below h3
  have E3 : RdS w3 ve (mdS xs) := Rd.of_own oe
  clear oe h3 b2 R2 D2 HS1
  go_wp2_with fail
  refine (HDX.out _ b3).mono ?_
  rintro e w4 ⟨ux, zs, rfl, ox, _, h4⟩
  have b4 := b3.trans (h4.mono b3.size)
  have R4 := R3.below h4
  have D4 := D3.below h4
  have E4 := E3.below h4
  have X4 : RdS w4 ux zs := Rd.of_own ox
  clear ox h4 b3 R3 D3 E3 HDX
  have HQ1 := Lib.hid (fun W (hW : Below w4.heap.size w4 W) => (HQ0.out _ _ _ W (D4.below hW) (E4.below hW)).mono (fun e w' h => (⟨h.1, hW.trans (h.2.mono hW.size)⟩ : e = .returned (.bool true) ∧ Below w4.heap.size w4 w')))
  have HX1 := Lib.hid (fun W (hW : Below w4.heap.size w4 W) => (HID.out _ _ W (X4.below hW)).mono (fun e w' h => (⟨h.1, hW.trans (h.2.mono hW.size)⟩ : e = .returned (.bool (dirB zs)) ∧ Below w4.heap.size w4 w')))
  have HX2 := Lib.hid (fun W (hW : Below w4.heap.size w4 W) => (HSD.out _ _ W (X4.below hW)).mono (fun e w' h => (⟨h.1, hW.trans (h.2.mono hW.size)⟩ : e = .returned (.bool (dirB zs)) ∧ Below w4.heap.size w4 w')))
  have hb0 : Below w4.heap.size w4 w4 := Below.refl _ _
  clear E4 X4 HSD
  generalize dirB zs = dz at *
  have q0 : (dz != dz) = false := by simp
  have q1 : (dz == dz) = true := by simp
  generalize hmd : mdB xs = md at *
  have HMD := Lib.hid hmd
  clear hmd
  cases md with
  | false =>
    clear HGM HGE HM0 HE1 HPS HQS HEF HDR HAG HLN HDP HYS
    go_wp2_with fail
    refine (HQ1.out _ hb0).mono ?_
    rintro e w10 ⟨rfl, hb10⟩
    clear hb0
    go_wp2_with fail
    refine (HX1.out _ hb10).mono ?_
    rintro e w11 ⟨rfl, hb11⟩
    clear hb10
    go_wp2_with fail
    refine (HX2.out _ hb11).mono ?_
    rintro e w12 ⟨rfl, hb12⟩
    clear hb11
    go_wp2_with fail
    refine (HQ1.out _ hb12).mono ?_
    rintro e w13 ⟨rfl, hb13⟩
    clear hb12
    go_wp2_with fail
    refine (HX1.out _ hb13).mono ?_
    rintro e w14 ⟨rfl, hb14⟩
    clear hb13
    go_wp2_with fail
    refine (HX2.out _ hb14).mono ?_
    rintro e w15 ⟨rfl, hb15⟩
    clear hb14
    go_wp2
    go_ret
    exact ⟨rfl, b4.trans (hb15.mono b4.size)⟩
  | true =>
    have HY2 := Lib.hid (HYS.out rfl)
    rw [HY2.out] at D4
    obtain ⟨e1, e2⟩ := HEF.out rfl
    have HDR2 := Lib.hid (HDR.out rfl)
    have hln := HLN.out
    clear HYS HEF HDR HLN
    go_wp2_with fail
    refine (HQ1.out _ hb0).mono ?_
    rintro e w10 ⟨rfl, hb10⟩
    clear hb0
    go_wp2_with fail
    refine (HX1.out _ hb10).mono ?_
    rintro e w11 ⟨rfl, hb11⟩
    clear hb10
    go_wp2_with fail
    refine (HX2.out _ hb11).mono ?_
    rintro e w12 ⟨rfl, hb12⟩
    clear hb11
    have b5 := b4.trans (hb12.mono b4.size)
    have R5 := R4.below hb12
    have D5 := D4.below hb12
    clear hb12 b4 R4 D4 HQ1 HX1 HX2
    go_wp2_with fail
    refine (HE1.out _ R5).mono ?_
    rintro e w20 ⟨va, rfl, oa, h20⟩
    have b20 := b5.trans (h20.mono b5.size)
    have R20 := R5.below h20
    have D20 := D5.below h20
    have A20 : RdM w20 va (effM xs) := Rd.of_own oa
    clear oa h20 b5 R5 D5 HE1
    go_wp2_with fail
    refine (HGE.out _ _ _ D20).mono ?_
    rintro e w21 ⟨vb, rfl, ob, h21⟩
    rw [e2] at ob
    have b21 := b20.trans (h21.mono b20.size)
    have R21 := R20.below h21
    have D21 := D20.below h21
    have A21 := A20.below h21
    have B21 : RdM w21 vb (effM xs) := Rd.of_own ob
    rw [e1]
    clear ob h21 b20 R20 D20 A20 HGE e1 e2
    go_wp2_with fail
    refine (HGM.out _ _ _ D21).mono ?_
    rintro e w22 ⟨vg, rfl, og, h22⟩
    have b22 := b21.trans (h22.mono b21.size)
    have R22 := R21.below h22
    have D22 := D21.below h22
    have A22 := A21.below h22
    have B22 := B21.below h22
    have G22 : RdS w22 vg (mdS (mkD xs)) := Rd.of_own og
    clear og h22 b21 R21 D21 A21 B21 HGM
    go_wp2_with fail
    refine (HDP.out _ b22).mono ?_
    rintro e w23 ⟨sp, rfl, _, h23⟩
    have b23 := b22.trans (h23.mono b22.size)
    have R23 := R22.below h23
    have D23 := D22.below h23
    have A23 := A22.below h23
    have B23 := B22.below h23
    have G23 := G22.below h23
    clear h23 b22 R22 D22 A22 B22 G22 HDP
    have HM1 := Lib.hid (fun W (hW : Below w23.heap.size w23 W) => (HM0.out _ _ _ W (A23.below hW) (B23.below hW)).mono (fun e w' h => (⟨h.1, hW.trans (h.2.mono hW.size)⟩ : e = .returned (.bool true) ∧ Below w23.heap.size w23 w')))
    have HD1 := Lib.hid (fun W (hW : Below w23.heap.size w23 W) => (HID.out _ _ W (D23.below hW)).mono (fun e w' h => (⟨h.1, hW.trans (h.2.mono hW.size)⟩ : e = .returned (.bool (dirB (mkD xs))) ∧ Below w23.heap.size w23 w')))
    rw [HDR2.out] at HD1
    have HP1 := Lib.hid (fun W (hW : Below w23.heap.size w23 W) => (HPS.out sp W).mono (fun e w' h => (⟨h.1, h.2 ▸ hW⟩ : e = .returned (.bool (slB sp)) ∧ Below w23.heap.size w23 w')))
    have HP2 := Lib.hid (fun W (hW : Below w23.heap.size w23 W) => (HQS.out sp W).mono (fun e w' h => (⟨h.1, h.2 ▸ hW⟩ : e = .returned (.bool (slB sp)) ∧ Below w23.heap.size w23 w')))
    have hb0 : Below w23.heap.size w23 w23 := Below.refl _ _
    generalize slB sp = ds at *
    generalize effOk xs = ek at *
    have q2 : (ek == ek) = true := by simp
    have q3 : (ds == ds) = true := by simp
    obtain ⟨Au, cu, eu, _⟩ := R23.open
    subst eu
    obtain ⟨Ad, cd, ed, _⟩ := D23.open
    subst ed
    have hge : ((xs.length : Int) ≤ ((mkD xs).length : Int)) := by omega
    rcases HAG.out with hg | ⟨hg, hg0⟩
    · rw [hg] at G23
      obtain ⟨Ag, cg, eg, _⟩ := G23.open
      subst eg
      clear G23 D23 A23 B23 R23 hg HAG HQ0 HID HM0 HPS HQS hln
      go_wp2_with fail
      refine (HM1.out _ hb0).mono ?_
      rintro e w30 ⟨rfl, hb30⟩
      clear hb0
      go_wp2_with fail
      refine (HD1.out _ hb30).mono ?_
      rintro e w31 ⟨rfl, hb31⟩
      clear hb30
      go_wp2_with fail
      refine (HP1.out _ hb31).mono ?_
      rintro e w32 ⟨rfl, hb32⟩
      clear hb31
      go_wp2_with fail
      refine (HP2.out _ hb32).mono ?_
      rintro e w33 ⟨rfl, hb33⟩
      clear hb32
      go_wp2
      go_ret
      exact ⟨rfl, b23.trans (hb33.mono b23.size)⟩
    · rw [hg] at G23
      have HQ2 := Lib.hid (fun W (hW : Below w23.heap.size w23 W) => (HQ0.out _ _ _ W (G23.below hW) (D23.below hW)).mono (fun e w' h => (⟨h.1, hW.trans (h.2.mono hW.size)⟩ : e = .returned (.bool true) ∧ Below w23.heap.size w23 w')))
      obtain ⟨Ag, cg, eg, _⟩ := G23.open
      subst eg
      have q4 : (((mkD xs).length : Int) == 0) = false := by simp; intro h; rw [h] at hg0; simp at hg0
      clear G23 D23 A23 B23 R23 hg HAG HQ0 HID HM0 HPS HQS hln
      go_wp2_with fail
      refine (HM1.out _ hb0).mono ?_
      rintro e w40 ⟨rfl, hb40⟩
      clear hb0
      go_wp2_with fail
      refine (HD1.out _ hb40).mono ?_
      rintro e w41 ⟨rfl, hb41⟩
      clear hb40
      go_wp2_with fail
      refine (HQ2.out _ hb41).mono ?_
      rintro e w42 ⟨rfl, hb42⟩
      clear hb41
      go_wp2_with fail
      refine (HP1.out _ hb42).mono ?_
      rintro e w43 ⟨rfl, hb43⟩
      clear hb42
      go_wp2_with fail
      refine (HP2.out _ hb43).mono ?_
      rintro e w44 ⟨rfl, hb44⟩
      clear hb43
      go_wp2
      go_ret
      exact ⟨rfl, b23.trans (hb44.mono b23.size)⟩

namespace fnMakeDirect
open Go.RowKit Go.PM Go.ChangeShapes Go.WideShapes Go.ChangeAt
open Go.ChangeMaps (open_string shut_string)
set_option maxRecDepth 100000 in
theorem lifted (os : Os) (started : os.Started) (H : Type) (enc : TypeId × Value → H) :
    ReturnsInHanded {} Try.checked os 3 .any (Rows.fnMakeDirectSpec.pre6 enc Try.prog Try.f3 Rows.fnMakeDirectRow.domain false) (Rows.fnMakeDirectSpec.post enc Try.prog Try.f3 false true false false) := by
  refine returnsInHanded_of_change (C := Try.checked) own started (by kernel_rfl) Try.func3
    (ChangeSpec.witness6 (enc := enc) (C := Try.checked) false ⟨#[], #[.slice none 0 0, .slice none 0 0], []⟩ 8 (by kernel_rfl) (by kernel_rfl) (by kernel_rfl) (by kernel_rfl)) ?_
  intro W base args ds gs before hval0 hW hcnd _
  have hval : ∀ (j : Nat) t v, Try.f3.params[j]? = some t → args[j]? = some v → Value.okWide Try.prog W .any base t v := hval0
  have hW' := hW
  obtain ⟨p, q, hA0, hV, rfl, hfz, hnd⟩ := hW
  have hA : DataW.TrodAll enc Try.prog W 0 (fun _ => true) true Try.f3.params.toList args.toList ds p := hA0
  rw [Try.params3] at hA hval
  obtain ⟨v0, vs0, d0, ds0, p0, q0, hargs, rfl, rfl, h0, r0⟩ := trodAll_cons hA
  obtain ⟨v1, vs1, d1, ds1, p1, q1, rfl, rfl, rfl, h1, r1⟩ := trodAll_cons r0
  obtain ⟨rfl, rfl, rfl⟩ := trodAll_nil r1
  obtain rfl : args = #[v0, v1] := by cases args; simp_all
  obtain ⟨rfl, rfl⟩ := trodVars_none hV
  have k0 := h0
  have lt0 : ∀ x ∈ p0, x.block < W.heap.size := by obtain ⟨m, hm⟩ := k0; exact DataW.trod_lt m _ _ _ hm
  have k1 := h1
  have lt1 : ∀ x ∈ p1, x.block < W.heap.size := by obtain ⟨m, hm⟩ := k1; exact DataW.trod_lt m _ _ _ hm
  obtain ⟨a0, len0, cap0, rfl⟩ := okWide_slice Try.underlying22 (hval 0 22 v0 rfl rfl)
  have hx0 : RdB W W.heap.size (.slice a0 len0 cap0) len0 := by obtain ⟨fuel, hf⟩ := h0; exact open_bytes hf
  obtain ⟨a1, len1, cap1, rfl⟩ := okWide_slice Try.underlying22 (hval 1 22 v1 rfl rfl)
  have hx1 : RdB W W.heap.size (.slice a1 len1 cap1) len1 := by obtain ⟨fuel, hf⟩ := h1; exact open_bytes hf
  clear hA0 hval0
  refine (exMakeDirect W _ len0 hx0 _ len1 hx1).mono fun e W' ⟨he, bel⟩ => ?_
  subst he
  exact ⟨_, rfl, _, _, _, [], _, [], hW', trodAll_mk1 (shut_bool Try.underlying4 _), (trodAll_cons_mk (Below.trod laidOut (by kernel_rfl) (of_decide_eq_true (by kernel_rfl)) k0 bel lt0) (trodAll_cons_mk (Below.trod laidOut (by kernel_rfl) (of_decide_eq_true (by kernel_rfl)) k1 bel lt1) trodAll_mk0)), rfl, bel.frame _, fun h => by cases h⟩

theorem over : Rows.fnMakeDirectRow.holds Try.pinned (OpenSpec.ofChange Rows.fnMakeDirectSpec) :=
  OpenClaim.holds_of_wide 3 Try.f3 rfl rfl rfl rfl rfl rfl rfl ⟨rfl, rfl, rfl, rfl, rfl⟩ rfl rfl rfl rfl rfl (by kernel_rfl) Try.func3 (by kernel_rfl)
    (of_decide_eq_true (by kernel_rfl)) (by unfold Func.isWrapper; first | (rw [if_pos (by decide +kernel)]; kernel_rfl) | (rw [if_neg (by decide +kernel)]; exact ⟨rfl, rfl⟩))
    (fun os started H enc _ => lifted os started H enc)

/-- The statement. -/
theorem proved : Rows.FnMakeDirectSaid := over
end fnMakeDirect

end Go.Proofs.Ytogkodjlbdlgjaa
