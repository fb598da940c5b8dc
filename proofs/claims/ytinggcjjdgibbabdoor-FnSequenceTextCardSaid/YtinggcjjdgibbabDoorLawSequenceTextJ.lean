/- Proved: for every input of the form's own reach the law FnSequenceText answers true and its arguments read afterwards as before; no further condition. -/
import Derived.Test.YtinggcjjdgibbabDoorSt2
import Derived.Test.YtinggcjjdgibbabDoorNames
import Derived.Test.YtinggcjjdgibbabDoorSpS2
import Derived.Test.YtinggcjjdgibbabDoorSt4
import Derived.Test.YtinggcjjdgibbabDoorNamesIn
import Derived.Test.YtinggcjjdgibbabDoorSource
import Derived.BigQuiet
import Derived.Test.YtinggcjjdgibbabDoorApp
import Derived.Test.YtinggcjjdgibbabDoorHold
import Derived.Test.YtinggcjjdgibbabDoorDrawL3
import Derived.Test.YtinggcjjdgibbabDoorDrawF
import Derived.Test.YtinggcjjdgibbabDoorTextS
import Derived.Test.YtinggcjjdgibbabDoorRange
import Derived.Test.YtinggcjjdgibbabDoorPieces
import Derived.Test.YtinggcjjdgibbabDoorRow
import Derived.Test.YtinggcjjdgibbabDoorParse
import Derived.Test.YtinggcjjdgibbabDoorTurn
import Derived.Test.YtinggcjjdgibbabDoorIm2
import Derived.Laws.EntriesVeiled
import Derived.Test.YtinggcjjdgibbabDoorHar
import Derived.Test.YtinggcjjdgibbabDoorP2
import Derived.Test.YtinggcjjdgibbabDoorPrsSM
import Derived.Test.YtinggcjjdgibbabDoorRows
import Derived.Test.YtinggcjjdgibbabDoorLib
import Derived.ProofKit
import Derived.OpenShut
import Derived.ShutString
import Derived.ChangeOld
import Derived.Deep.Slices
import Derived.ChangeSame
import Derived.Carry
import Derived.Test.YtinggcjjdgibbabDoorFmtS
import Derived.Test.YtinggcjjdgibbabDoorTie
import Derived.Test.YtinggcjjdgibbabDoorCards
import Derived.ChangeVars
import Derived.JoinedOf
import Derived.LaidLaws
import Derived.LaidHandle
import Derived.SevenTiedAt
import Derived.ChangeKeysEq
import Derived.Test.YtinggcjjdgibbabDoorDraw
namespace Go.PM
open Go.RowKit
def aoP (t : Nat → ByteArray) (f : Nat → UInt8) (n : Nat) : Nat → UInt8 := fun q => if q < n then rdS f (srcT t q) else f q
theorem aoP_zero (t : Nat → ByteArray) (f : Nat → UInt8) : aoP t f 0 = f := by funext q; simp [aoP]
theorem aoP_nine (t : Nat → ByteArray) (f : Nat → UInt8) : aoP t f 9 = aoS t f := rfl
theorem aoP_succ (t : Nat → ByteArray) (f : Nat → UInt8) (p : Nat) : updS (aoP t f p) p (rdS f (srcT t p)) = aoP t f (p + 1) := by
  funext q
  unfold updS aoP
  by_cases h : q = p
  · subst h; simp
  · by_cases h2 : q < p
    · simp [h, h2, Nat.lt_succ_of_lt h2]
    · have : ¬ q < p + 1 := by omega
      simp [h, h2, this]
end Go.PM
namespace Go.Proofs.YtinggcjjdgibbabDoor
open Go.RowKit Go.PM
attribute [local go_sem] Oper.semAt_some

set_option maxRecDepth 100000 in
set_option maxHeartbeats 2000000 in
theorem atOnce_c (t : Nat → ByteArray) (f : Nat → UInt8) (ht : ∀ p, p < 9 → okC (srcT t p) = true) (w : World) :
    Calls Tryd.prog 44 #[stV f, tabX t] w fun e w' => e = .returned (stV (aoS t f)) ∧ Below w.heap.size w w' := by
  change Calls Tryd.prog _ #[stV f, tabV t] w _
  have HR : ∀ (tmps : Array Value) (W : World) (g : Nat → UInt8) (b : Nat), At W b 71 (stC g) → tmps.getD 4 undef = .pointer (some ⟨b, 0, none⟩) →
      (results Tryd.f44 tmps).run Tryd.prog W = .ok (stV g) W := fun tmps W g b hA h4 =>
    results_row1 Tryd.results44 tmps W _ _ _ h4 hA 11 5 Tryd.underlying71 (by kernel_rfl)
  refine (callsIn_wide (n := 5)).1 ?_
  refine callsIn_of_wp_marks Tryd.func44 rfl trivial ?_ rfl
  simp only [Tryd.ntmps44, List.size_toArray, List.length_cons, List.length_nil, Nat.reduceAdd, Nat.reduceSub, Array.replicate_succ, Array.replicate_zero, List.push_toArray, List.append_toArray, List.nil_append, List.cons_append]
  obtain ⟨W0, hW0⟩ : ∃ W0 : World, W0 = (((w.alloc (.cells (stC f) 71)).alloc (.cells (tabC t) 67)).alloc (.cells zSA 71)).alloc (.cells zSA 71) := ⟨_, rfl⟩
  have hB0 : Below w.heap.size w W0 := by rw [hW0]; (repeat' (first | (with_reducible exact Below.refl _ _) | (with_reducible assumption) | (with_reducible refine Below.alloc ?_ ?_ _) | (with_reducible refine Below.drew ?_) | (with_reducible refine Below.setCell ?_ ?_ _) | (with_reducible exact Nat.le_refl _) | omega | ((repeat (first | rewrite [World.size_alloc] | rewrite [World.size_setCell] | rewrite [World.size_drew])); omega) | (simp; omega) | (simp; done)))
  have hS0 : W0.heap.size = w.heap.size + 4 := by rw [hW0]; simp only [World.size_alloc]
  have hA0 : At W0 w.heap.size 71 (stC f) := by rw [hW0]; exact (((At.new _ _ _).alloc _).alloc _).alloc _
  have hA1 : At W0 (w.heap.size + 1) 67 (tabC t) := by
    rw [hW0]; have := At.new (w.alloc (.cells (stC f) 71)) 67 (tabC t)
    rw [World.size_alloc] at this; exact (this.alloc _).alloc _
  have hA2 : At W0 (w.heap.size + 1 + 1) 71 zSA := by
    rw [hW0]; have := At.new ((w.alloc (.cells (stC f) 71)).alloc (.cells (tabC t) 67)) 71 zSA
    rw [World.size_alloc, World.size_alloc] at this; exact this.alloc _
  have hA3 : At W0 (w.heap.size + 1 + 1 + 1) 71 zSA := by
    rw [hW0]; have := At.new (((w.alloc (.cells (stC f) 71)).alloc (.cells (tabC t) 67)).alloc (.cells zSA 71)) 71 zSA
    rwa [World.size_alloc, World.size_alloc, World.size_alloc] at this
  have hl0 : At (((w.alloc (.cells (stC f) 71)).alloc (.cells (tabC t) 67)).alloc (.cells zSA 71)) w.heap.size 71 (stC f) := ((At.new _ _ _).alloc _).alloc _
  gi_wp2_with (first | (refine ldIn_row rfl 71 (.tmp 2) rfl w.heap.size 71 (stC f) hl0 (by rfl) 11 5 Tryd.underlying71 (by kernel_rfl) ?_) | (rw [← hW0]; refine stIn_row rfl 71 (.tmp 5) (.tmp 7) rfl rfl (w.heap.size + 1 + 1 + 1) 71 zSA (stC f) hA3 (by rfl) (by rfl) (by kernel_rfl) rfl (stC_one _) ?_; intro W5 hA5 hg5))
  have k0 := hA0.grown hg5 (by simp; omega)
  have k1 := hA1.grown hg5 (by simp)
  have k2 := hA2.grown hg5 (by simp)
  have kB : Below w.heap.size w W5 := hB0.trans (below_grown hg5 hB0.size (fun g hg => by cases hg; omega))
  have kS : w.heap.size + 4 ≤ W5.heap.size := by have := hg5.size; omega
  clear hA0 hA1 hA2 hA3 hl0 hg5 hB0 hS0 hW0
  refine range_law (F := Fence.wide) (gf := 66) (lf := #[.int .i64 9]) (lb := #[]) rfl (by decide) rfl trivial (fun args w => rfl) (encs := fun p : Nat => #[.int .i64 p]) (xs := List.range 9)
    (below_iter _ _ trivial rfl (by decide)) (fun _ => rfl)
    (fun pre W => At W w.heap.size 71 (stC f) ∧ At W (w.heap.size + 1) 67 (tabC t) ∧ At W (w.heap.size + 1 + 1) 71 zSA ∧ At W (w.heap.size + 1 + 1 + 1) 71 (stC (aoP t f pre.length)) ∧ Below w.heap.size w W)
    (fun _ _ _ => False) ?_ (fun _ => ownFrom_pure _ _) ?_ (fun p => { tmps := #[stV f, tabV t, .pointer (some ⟨w.heap.size, 0, none⟩), .pointer (some ⟨w.heap.size + 1, 0, none⟩), .pointer (some ⟨w.heap.size + 1 + 1, 0, none⟩), .pointer (some ⟨w.heap.size + 1 + 1 + 1, 0, none⟩), .int .i64 p, stV f, .func (.func 66) #[.int .i64 9] #[], .int .i64 p, undef, undef, undef, undef, undef, undef, undef, undef], defers := [] }) ?_ ?_ ?_ ?_
  · rintro s A A' row ⟨h1, h2, h3, h4, h5⟩ hg hr
    have hr' : ∀ r, row = some r → w.heap.size + 4 ≤ r := fun r e => by have := (hr r e).1; omega
    have hne : ∀ b, b < w.heap.size + 4 → some b ≠ row := fun b hb e => by have := hr' _ e.symm; omega
    exact ⟨h1.grown hg (hne _ (by omega)), h2.grown hg (hne _ (by omega)), h3.grown hg (hne _ (by omega)), h4.grown hg (hne _ (by omega)), h5.trans (below_grown hg h5.size (fun g e => by have := hr' _ e; omega))⟩
  · exact ⟨k0, k1, k2, by rw [List.length_nil, aoP_zero]; exact hA5, kB⟩
  · intro l p W Kc hK
    gi_wp2
    exact hK
  · clear k0 k1 k2 kB hA5
    rintro l pre p W ⟨h1, h2, h3, h4, h5⟩ hp hsz
    obtain ⟨hl, hp9⟩ := pre_len pre p hp
    rw [hl] at h4
    have HL : Hid ((pre ++ [p]).length = p + 1) := by show _ = _; simp [hl]
    have hst := stC_set (aoP t f p) p (by omega) (rdS f (srcT t p))
    rw [aoP_succ] at hst
    have HST := Lib.hid hst
    have hpc := stC_at (aoP t f p) p (by omega)
    have hS : ∀ x : Ext W.heap.size W.drew, Calls Tryd.prog 68 #[tabX t, .int .i64 p] x.val fun e w' => e = .returned (.string (srcT t p)) ∧ Below x.val.heap.size x.val w' := fun x => source_c t p hp9 x.val
    have hR : ∀ x : Ext W.heap.size W.drew, Calls Tryd.prog 67 #[stV f, .string (srcT t p)] x.val fun e w' => e = .returned (.int .u8 (rdS f (srcT t p)).toNat) ∧ Below x.val.heap.size x.val w' := fun x => read_c f _ (ht p hp9) x.val
    have hC1 := At.ext (W := W.drew) (B := W.heap.size) h1 h1.lt
    have hC2 := At.ext (W := W.drew) (B := W.heap.size) h2 h2.lt
    clear hst hl
    generalize aoP t f p = g at *
    generalize hg2 : aoP t f (p + 1) = g2 at *
    have HG2 := Lib.hid hg2
    clear hg2
    generalize rdS f (srcT t p) = v at *
    generalize srcT t p = q at *
    have i0 : (0 : Int) ≤ (p : Int) := by omega
    have i1 : (p : Int) < 11 := by omega
    gi_wp2
    refine region_tail_inRound (F := Fence.wide) (C := fun w' => ∃ x : Ext W.heap.size W.drew, w' = x.val) 7 rfl (by kernel_rfl) (by kernel_rfl) (by kernel_rfl) ⟨⟨_, Below.refl _ _⟩, rfl⟩ ?_
    simp only [List.take_succ_cons, List.take_zero, List.drop_succ_cons, List.drop_zero]
    gi_big_quiet_step (fail)
    refine rowIn_step rfl 71 (.tmp 2) rfl w.heap.size 71 (stC f) (by rfl) hC1 11 5 Tryd.underlying71 (by kernel_rfl) ?_
    simp only [Act.put, List.setIfInBounds_toArray, List.set_cons_succ, List.set_cons_zero]
    refine rowIn_step rfl 67 (.tmp 3) rfl (w.heap.size + 1) 67 (tabC t) (by rfl) hC2 9 9 Tryd.underlying67 (by kernel_rfl) ?_
    simp only [Act.put, List.setIfInBounds_toArray, List.set_cons_succ, List.set_cons_zero]
    gi_big_quiet_step (fail)
    (refine BigFrame.wpQuietIn_want (fun _ _ _ _ => trivial) rfl (fun K hK => ?_); gi_big_quiet_op; refine ⟨_, fun _ => callsIn_wide.2 (ext_call _ (Nat.le_refl _) (hS _)), hK _ ?_⟩; clear hK K)
    (refine BigFrame.wpQuietIn_want (fun _ _ _ _ => trivial) rfl (fun K hK => ?_); gi_big_quiet_op; refine ⟨_, fun _ => callsIn_wide.2 (ext_call _ (Nat.le_refl _) (hR _)), hK _ ?_⟩; clear hK K)
    gi_big_quiet_step (fail)
    refine wpQuietIn_nil ?_
    rintro W2 ⟨xw, rfl⟩
    have hb2 : Below W.heap.size W xw.val := ((Below.refl _ _).drew).trans xw.property
    clear hC1 hC2 hS hR
    generalize xw.val = W2 at *
    have m1 := h1.keep hb2
    have m2 := h2.keep hb2
    have m3 := h3.keep hb2
    have m4 := h4.keep hb2
    have m5 := h5.trans (hb2.mono h5.size)
    have mc := (m4.cell p).trans hpc
    have mf := m4.frozen p
    clear h1 h2 h3 h4 h5
    gi_wp2
    refine ⟨(keepsFrom_below hb2).trans ((KeepsOthers.setCell _ _ _).from _), KeepsIn.zero (by simp [World.size_setCell]; exact hb2.size), m1.far (by simp; omega) _, m2.far (by simp) _, m3.far (by simp) _, ?_, m5.setCell (by simp; omega) _⟩
    rw [HL.out, HG2.out, ← HST.out]
    exact m4.set p _
  · clear k0 k1 k2 kB hA5
    intro D W hD hI hd
    obtain ⟨h1, h2, h3, h4, h5⟩ := hI
    have h4' : At W (w.heap.size + 1 + 1 + 1) 71 (stC (aoS t f)) := h4
    clear h4
    have hDD : w.heap.size + 4 ≤ D := by omega
    generalize hg : aoS t f = g at *
    have HG := Lib.hid hg
    clear hg
    have hW5s := h5.size
    gi_wp2_with (first | (refine ldIn_row rfl 71 (.tmp 5) rfl (w.heap.size + 1 + 1 + 1) 71 (stC g) h4' (by rfl) 11 5 Tryd.underlying71 (by kernel_rfl) ?_) | (refine stIn_row rfl 71 (.tmp 4) (.tmp 17) rfl rfl (w.heap.size + 1 + 1) 71 zSA (stC g) h3 (by rfl) (by rfl) (by kernel_rfl) rfl (stC_one _) ?_; intro W6 hA6 hg6))
    have d6 : W6.heap[D]? = some (.deferred (some [])) := (hg6.block D (Array.getElem?_eq_some_iff.1 hd).1 (by simp; omega)).trans hd
    have bel : Below w.heap.size w W6 := h5.trans (below_grown hg6 hW5s (fun g hg => by cases hg; omega))
    simp only [Act.put, List.setIfInBounds_toArray, List.set_cons_succ, List.set_cons_zero]
    have fin : LeavesInM Fence.wide 5 Tryd.prog Tryd.f44 #[stV f, tabV t, .pointer (some ⟨w.heap.size, 0, none⟩), .pointer (some ⟨w.heap.size + 1, 0, none⟩), .pointer (some ⟨w.heap.size + 1 + 1, 0, none⟩), .pointer (some ⟨w.heap.size + 1 + 1 + 1, 0, none⟩), undef, stV f, .func (.func 66) #[.int .i64 9] #[], undef, undef, undef, undef, undef, undef, undef, undef, .agg (stC g)]
        (fun e w' => e = Ending.returned (stV (aoS t f)) ∧ Below w.heap.size w w') [] .returning (W6.putObj D (.deferred none)) := by
      exact ⟨_, HR _ _ g (w.heap.size + 1 + 1) ((World.putObj_heap_other (by omega)).trans hA6) rfl, by rw [HG.out], bel.trans ⟨rfl, rfl, rfl, by simp [World.putObj], fun k hk => World.putObj_heap_other (by omega)⟩⟩
    exact ⟨by simp, .inl ⟨D, _, rfl, run_takeDeferred d6, fin⟩⟩
  · intro _ _ _ _ _ _ hf
    exact hf.elim
end Go.Proofs.YtinggcjjdgibbabDoor
namespace Go.PM
open Go.RowKit
theorem src_okC {xs : List Mv} (h : MV xs) : ∀ p, p < 9 → okC (srcT (tabOf xs) p) = true := by
  intro p hp
  rw [srcM_nm h hp]
  unfold srcM
  cases hf : xs.find? (fun m => decide (m.1 = nm p)) with
  | none =>
    show okC (nm p) = true
    unfold okC; rw [(cidx_nm hp).1]; rfl
  | some m =>
    have hm := List.mem_of_find?_eq_some hf
    have h1 := h.1 m hm
    unfold mok at h1; rw [Bool.and_eq_true] at h1
    exact isS_okC h1.2
def aoB (xs : List Mv) (s : ByteArray) : ByteArray := okS (mvalid xs && stateV s) (stB (aoS (tabOf xs) (ofB s)))
def ioB (xs : List St) (s : ByteArray) : ByteArray := okS (svalid xs && stateV s) (stB (runS xs xs.length (ofB s)))
theorem okS_yes (s : ByteArray) : okS true s = s := rfl
theorem okS_no (s : ByteArray) : okS false s = ⟨#[]⟩ := rfl
end Go.PM
namespace Go.Proofs.YtinggcjjdgibbabDoor
open Go.RowKit Go.PM

end Go.Proofs.YtinggcjjdgibbabDoor
namespace Go.Proofs.YtinggcjjdgibbabDoor
open Go.RowKit Go.PM

end Go.Proofs.YtinggcjjdgibbabDoor
namespace Go.PM
def sameAt (xs ys : List Mv) (p : Nat) : Bool := decide (srcM xs (nm p) = srcM ys (nm p))
def sameM (xs ys : List Mv) : Bool := mvalid xs && mvalid ys && (List.range 9).all (sameAt xs ys)
theorem sameM_no {xs ys : List Mv} (k : Nat) (hk : k < 9) (h : sameAt xs ys k = false) : sameM xs ys = false := by
  have : (List.range 9).all (sameAt xs ys) = false := by
    rw [List.all_eq_false]
    exact ⟨k, by simpa using hk, by rw [h]; decide⟩
  rw [sameM, this, Bool.and_false]
theorem sameM_all {xs ys : List Mv} (h : ∀ p, p < 9 → sameAt xs ys p = true) : sameM xs ys = (mvalid xs && mvalid ys) := by
  have : (List.range 9).all (sameAt xs ys) = true := by
    rw [List.all_eq_true]
    intro p hp
    exact h p (by simpa using hp)
  rw [sameM, this, Bool.and_true]
end Go.PM
namespace Go.Proofs.YtinggcjjdgibbabDoor
open Go.RowKit Go.PM

set_option maxRecDepth 100000 in
set_option maxHeartbeats 2000000 in
theorem spSameMoves_c (xs ys : List Mv) (v u : Value) (w : World) (hx : RdM w v xs) (hy : RdM w u ys) (hz : ∀ m ∈ xs, m.1.size ≤ 9223372036854775807 ∧ m.2.size ≤ 9223372036854775807) (hn' : xs.length ≤ 1048576)
    (hzy : ∀ m ∈ ys, m.1.size ≤ 9223372036854775807 ∧ m.2.size ≤ 9223372036854775807) (hny : ys.length ≤ 1048576) :
    Calls Tryd.prog 45 #[v, u] w fun e w' => e = .returned (.bool (sameM xs ys)) ∧ Below w.heap.size w w' := by
  have HN : Hid (∀ q, q < 9 → (ByteArray.mk #[97, 98, 99, 100, 101, 102, 65, 66, 67]).extract q (q+1) = nm q) := by
    show ∀ q, _
    intro q hq
    match q, hq with
    | 0, _ | 1, _ | 2, _ | 3, _ | 4, _ | 5, _ | 6, _ | 7, _ | 8, _ => decide +kernel
  have HX := Lib.hid (fun W (hW : Below w.heap.size w W) => hx.below hW)
  have HY := Lib.hid (fun W (hW : Below w.heap.size w W) => hy.below hW)
  have HC := Lib.hid (fun W (hW : Below w.heap.size w W) q => l1Source_c xs v q W (hx.below hW))
  have HD := Lib.hid (fun W (hW : Below w.heap.size w W) q => l1Source_c ys u q W (hy.below hW))
  have HNO := Lib.hid (fun k hk => sameM_no (xs := xs) (ys := ys) k hk)
  have HALL := Lib.hid (fun h => sameM_all (xs := xs) (ys := ys) h)
  have HV := Lib.hid (fun W (hW : Below w.heap.size w W) => spMovesValid_c xs v W (hx.below hW) hz hn')
  have HU := Lib.hid (fun W (hW : Below w.heap.size w W) => spMovesValid_c ys u W (hy.below hW) hzy hny)
  go_enter Tryd.func45, Tryd.ntmps45
  go_wp2
  go_loopw [6] (fun i wr => ∃ (k : Nat), k ≤ 9 ∧ i = .int .i64 k ∧ Hid (∀ p, p < k → sameAt xs ys p = true) ∧ Below w.heap.size w wr) (fun i _ => 9 - (intOf i).toNat)
  case atStart => exact ⟨0, by omega, rfl, fun p hp => absurd hp (Nat.not_lt_zero p), Below.refl _ _⟩
  case round =>
    obtain ⟨k, hk, rfl, hm, hb⟩ := hrel
    have hbs := hb.size
    by_cases hlt : k < 9
    · have hex := HN.out k hlt
      have hC : ∀ x : Ext w.heap.size wr, Calls Tryd.prog 69 #[v, .string (nm k)] x.val fun e w' => e = .returned (.string (srcM xs (nm k))) ∧ Below x.val.heap.size x.val w' := fun x => HC.out x.val (hb.trans x.property) (nm k)
      have hD : ∀ x : Ext w.heap.size wr, Calls Tryd.prog 69 #[u, .string (nm k)] x.val fun e w' => e = .returned (.string (srcM ys (nm k))) ∧ Below x.val.heap.size x.val w' := fun x => HD.out x.val (hb.trans x.property) (nm k)
      have HS := Lib.hid (show sameAt xs ys k = decide (srcM xs (nm k) = srcM ys (nm k)) from rfl)
      have HNOk := Lib.hid (HNO.out k hlt)
      generalize srcM xs (nm k) = s1 at *
      generalize srcM ys (nm k) = s2 at *
      generalize nm k = q at *
      rcases Bool.eq_false_or_eq_true (s1.toList == s2.toList) with hd | hd
      · go_wp2
        refine wp_region_ext w.heap.size (by kernel_rfl) (by kernel_rfl) ?_
        repeat (go_big_quiet_step ((go_at_call 69; first | (with_reducible exact ext_call _ hbs (hC _)) | (with_reducible exact ext_call _ hbs (hD _)))))
        refine wpQuiet_nil ?_
        intro w2 hw'
        obtain ⟨xw, hxw⟩ := hw'
        have hb2 := xw.property
        rw [← hxw] at hb2
        clear hxw xw hC hD
        have hb3 : Below w.heap.size w w2 := hb.trans hb2
        go_wp2
        go_roundw
        case rel =>
          refine ⟨k + 1, by omega, by go_num, ?_, hb3⟩
          intro p hp
          by_cases hpk : p < k
          · exact hm.out p hpk
          · have : p = k := by omega
            subst this
            rw [HS.out, ← beq_str, hd]
        case measure => simp [intOf]; omega
      · go_wp2
        refine wp_region_ext w.heap.size (by kernel_rfl) (by kernel_rfl) ?_
        repeat (go_big_quiet_step ((go_at_call 69; first | (with_reducible exact ext_call _ hbs (hC _)) | (with_reducible exact ext_call _ hbs (hD _)))))
        refine wpQuiet_nil ?_
        intro w2 hw'
        obtain ⟨xw, hxw⟩ := hw'
        have hb2 := xw.property
        rw [← hxw] at hb2
        clear hxw xw hC hD
        have hb3 : Below w.heap.size w w2 := hb.trans hb2
        go_wp2
        go_ret
        exact ⟨by rw [HNOk.out (by rw [HS.out, ← beq_str, hd])]; rfl, hb3⟩
    · have hk9 : k = 9 := by omega
      subst hk9
      have HA := Lib.hid (HALL.out hm.out)
      have hcx := HV.out wr hb
      generalize mvalid xs = bx at *
      rcases bx with _ | _
      · go_wp2_with fail
        refine hcx.mono ?_
        rintro e w2 ⟨rfl, hb2⟩
        go_wp2
        go_ret
        exact ⟨by rw [HA.out]; rfl, hb.trans (hb2.mono hbs)⟩
      · go_wp2_with fail
        refine hcx.mono ?_
        rintro e w2 ⟨rfl, hb2⟩
        have hb3 := hb.trans (hb2.mono hbs)
        have hs3 := hb3.size
        go_wp2_with fail
        refine (HU.out w2 hb3).mono ?_
        rintro e w3 ⟨rfl, hb4⟩
        go_wp2
        go_ret
        exact ⟨by rw [HA.out]; rfl, hb3.trans (hb4.mono hs3)⟩
end Go.Proofs.YtinggcjjdgibbabDoor
namespace Go.PM
open Go.RowKit
/-- the moves that give each place its value in a state -/
def effA (g : Nat → UInt8) (p : Nat) : Mv := (nm p, ⟨#[g p]⟩)
def effL (g : Nat → UInt8) (k : Nat) : List Mv := (List.range k).map (effA g)
theorem effL_succ (g : Nat → UInt8) (k : Nat) : effL g (k + 1) = effL g k ++ [effA g k] := by simp [effL, List.range_succ]
theorem effL_len (g : Nat → UInt8) (k : Nat) : (effL g k).length = k := by simp [effL]
theorem effL_at (g : Nat → UInt8) (n k : Nat) (h : k < (effL g n).length) : (effL g n)[k] = effA g k := by simp [effL]
theorem effL_take (g : Nat → UInt8) (n k : Nat) (h : k ≤ n) : (effL g n).take k = effL g k := by
  simp only [effL, ← List.map_take, List.take_range]
  rw [Nat.min_eq_left h]
theorem nms_nodup : ((List.range 9).map nm).Nodup := by decide +kernel
theorem effL_MV (g : Nat → UInt8) : MV (effL g 9) ↔ ∀ p, p < 9 → isS ⟨#[g p]⟩ = true := by
  constructor
  · intro h p hp
    have := h.1 (effA g p) (List.mem_map.2 ⟨p, by simpa using hp, rfl⟩)
    unfold mok at this; rw [Bool.and_eq_true] at this
    exact this.2
  · intro h
    refine ⟨fun m hm => ?_, ?_⟩
    · obtain ⟨p, hp, rfl⟩ := List.mem_map.1 hm
      have hp9 : p < 9 := by simpa using hp
      unfold mok effA
      rw [isP_nm hp9, h p hp9]; rfl
    · have : (effL g 9).map (·.1) = (List.range 9).map nm := by simp [effL, effA]
      rw [this]; exact nms_nodup
def effG (xs : List St) : Nat → UInt8 := runS xs xs.length nmS'
where nmS' : Nat → UInt8 := fun q => cellsL.getD q 0
def effOk (xs : List St) : Bool := svalid xs && mvalid (effL (effG xs) 9)
def effM (xs : List St) : List Mv := if effOk xs then busyM (effL (effG xs) 9) else []
theorem effM_yes {xs : List St} (h : effOk xs = true) : effM xs = busyM (effL (effG xs) 9) := if_pos h
theorem effM_no {xs : List St} (h : effOk xs = false) : effM xs = [] := if_neg (by rw [h]; decide)
theorem effOk_no {xs : List St} (p : Nat) (hp : p < 9) (h : isS ⟨#[effG xs p]⟩ = false) : effOk xs = false := by
  have : mvalid (effL (effG xs) 9) = false := by
    simp only [mvalid, decide_eq_false_iff_not, effL_MV]
    intro h2
    rw [h2 p hp] at h; cases h
  rw [effOk, this, Bool.and_false]
theorem effOk_yes {xs : List St} (hv : svalid xs = true) (h : ∀ p, p < 9 → isS ⟨#[effG xs p]⟩ = true) : effOk xs = true := by
  have : mvalid (effL (effG xs) 9) = true := by
    simp only [mvalid, decide_eq_true_eq, effL_MV]; exact h
  rw [effOk, this, hv]; rfl
theorem busyE_zero (g : Nat → UInt8) : busyM (effL g 0) = [] := rfl
theorem busyE_succ (g : Nat → UInt8) (k : Nat) : busyM (effL g (k + 1)) = if (⟨#[g k]⟩ : ByteArray) = nm k then busyM (effL g k) else busyM (effL g k) ++ [effA g k] := by
  unfold busyM
  rw [effL_succ, List.filter_append]
  by_cases h : (⟨#[g k]⟩ : ByteArray) = nm k
  · simp [effA, h]
  · have : ¬ nm k = (⟨#[g k]⟩ : ByteArray) := fun e => h e.symm
    simp [effA, h, this]
theorem busyE_le (g : Nat → UInt8) (k : Nat) : (busyM (effL g k)).length ≤ k := by
  have := busyM_le (effL g k)
  rw [effL_len] at this; exact this
theorem stB_names : stB (fun q => cellsL.getD q 0) = cellsB := rfl
end Go.PM
namespace Go.Proofs.YtinggcjjdgibbabDoor
open Go.RowKit Go.PM

theorem l2Fresh_c (w : World) : Calls Tryd.prog 60 #[] w fun e w' => e = .returned (.string cellsB) ∧ w = w' := by
  go_enter Tryd.func60, Tryd.ntmps60
  go_wp2
  go_ret
  exact ⟨rfl, rfl⟩
set_option maxRecDepth 100000 in
set_option maxHeartbeats 2000000 in
theorem spEffectOf_c (xs : List St) (v : Value) (w : World) (hx : RdS w v xs) :
    Calls Tryd.prog 38 #[v] w fun e w' => ∃ v', e = .returned (.tuple #[v', .bool (effOk xs)]) ∧ w'.ownsRow w.heap.size 47 2 v' (effM xs).length (mcells (effM xs)) ∧ Below w.heap.size w w' := by
  have hE := World.ownsRow_lit (e := 47) (base := w.heap.size) (size := 2) w #[] 0 (Nat.le_refl _) (Nat.zero_le _) rfl
  have hx0 : RdS (w.alloc (.cells #[] 47)) v xs := hx.below ((Below.refl _ _).alloc (Nat.le_refl _) _)
  have hsv := Lib.hid (spSequenceValid_c xs v _ hx0)
  have HIO := Lib.hid (fun W (hW : Below (w.alloc (.cells #[] 47)).heap.size (w.alloc (.cells #[] 47)) W) hv => l2Run_c xs hv v (fun q => cellsL.getD q 0) W (hx0.below hW))
  clear hx hx0
  rcases Bool.eq_false_or_eq_true (svalid xs) with h1 | h1
  · have HOK := Lib.hid (fun p hp h => effOk_no (xs := xs) p hp h)
    have HYS := Lib.hid (fun h => effOk_yes (xs := xs) h1 h)
    have HY := Lib.hid (fun h => effM_yes (xs := xs) h)
    have HN := Lib.hid (fun h => effM_no (xs := xs) h)
    have HV := Lib.hid (fun k hk => svalid_at h1 k hk)
    have HBS := Lib.hid (fun k => busyE_succ (effG xs) k)
    have HBL := Lib.hid (fun k => busyE_le (effG xs) k)
    have HG : Hid (stB (runS xs xs.length (fun q => cellsL.getD q 0)) = stB (effG xs)) := rfl
    have HX := Lib.hid (fun k hk => stB_cell (effG xs) k hk)
    have HNM : Hid (∀ q, q < 9 → (ByteArray.mk #[97, 98, 99, 100, 101, 102, 65, 66, 67]).extract q (q+1) = nm q) := by
      show ∀ q, _
      intro q hq
      match q, hq with
      | 0, _ | 1, _ | 2, _ | 3, _ | 4, _ | 5, _ | 6, _ | 7, _ | 8, _ => decide +kernel
    have H1 := Lib.hid h1
    clear h1
    go_enter Tryd.func38, Tryd.ntmps38
    go_wp2_with fail
    refine hsv.out.mono ?_
    rintro e w1 ⟨rfl, hb1⟩
    rw [H1.out]
    have hE1 := own_keep hE hb1
    have hio := HIO.out w1 hb1 HV.out
    rw [HG.out, show stB (fun q => cellsL.getD q 0) = cellsB from rfl] at hio
    have HIO2 := Lib.hid hio
    clear hio HIO HV HG hE
    have bel1 : Below w.heap.size w w1 := ((Below.refl _ _).alloc (Nat.le_refl _) _).trans (hb1.mono (by simp))
    have hs1 := bel1.size
    generalize hgg : effG xs = g at *
    have HGG := Lib.hid hgg
    clear hgg
    have hsz : (stB g).size = 11 := rfl
    generalize stB g = t at *
    go_wp2_with (first | (go_at_call 60; refine (l2Fresh_c _).mono ?_; rintro e w' ⟨rfl, rfl⟩) | (go_at_call 59; refine HIO2.out.mono ?_; rintro e w2 ⟨rfl, hb2⟩))
    have hE2 := own_keep hE1 hb2
    have bel2 := bel1.trans (hb2.mono hs1)
    have hs2 := bel2.size
    clear hE1
    go_loopw [4, 6, 7, 16] (fun o _ _ i wr => ∃ (k : Nat), k ≤ 9 ∧ i = .int .i64 k ∧ wr.ownsRow w.heap.size 47 2 o (busyM (effL g k)).length (mcells (busyM (effL g k))) ∧ Below w.heap.size w wr ∧ Hid (∀ p, p < k → isS ⟨#[g p]⟩ = true)) (fun _ _ _ i _ => 9 - (intOf i).toNat)
    case atStart => exact ⟨0, by omega, rfl, hE2, bel2, fun p hp => absurd hp (Nat.not_lt_zero p)⟩
    case round =>
      obtain ⟨k, hk, rfl, ho, hb, hm⟩ := hrel
      have hbs := hb.size
      by_cases hlt : k < 9
      · have hex := HX.out k (by omega)
        have hnm := HNM.out k hlt
        have hst := HBS.out k
        have hle := HBL.out k
        have HOKk := Lib.hid (HOK.out k hlt)
        have HM : Hid (isS ⟨#[g k]⟩ = true → ∀ p, p < k + 1 → isS ⟨#[g p]⟩ = true) := by
          intro h p hp
          rcases Nat.lt_succ_iff_lt_or_eq.1 hp with h2 | h2
          · exact hm.out p h2
          · subst h2; exact h
        have HEA : Hid (effA g k = (nm k, ⟨#[g k]⟩)) := rfl
        rw [HEA.out] at hst
        generalize (⟨#[g k]⟩ : ByteArray) = a at *
        generalize nm k = q at *
        have HST := Lib.hid hst
        clear hst
        have HIS : Hid (∀ x y : Bool, isP a = x → isD a = y → isS a = (x || y)) := by rintro x y rfl rfl; rfl
        have hnw := two_new wr (.string q) (.string a) 47
        by_cases hs : isS a = true
        · have HMN := Lib.hid (HM.out hs)
          have hpd : isP a = true ∨ (isP a = false ∧ isD a = true) := by
            rcases Bool.eq_false_or_eq_true (isP a) with h | h
            · exact .inl h
            · rcases Bool.eq_false_or_eq_true (isD a) with h2 | h2
              · exact .inr ⟨h, h2⟩
              · rw [HIS.out false false h h2] at hs; cases hs
          clear hs
          rcases Bool.eq_false_or_eq_true (a.toList == q.toList) with hd | hd
          · have HD : Hid (a = q) := by rw [beq_str, decide_eq_true_eq] at hd; exact hd
            rcases hpd with hp | ⟨hp, hp2⟩
            · go_wp2_with (go_at_call 61; refine (l1Place_c _ _).mono ?_; rintro e w' ⟨rfl, rfl⟩; rw [hp])
              go_roundw
              case rel => exact ⟨k + 1, by omega, by go_num, by rw [HST.out, if_pos HD.out]; exact ho, hb, HMN.out⟩
              case measure => simp [intOf]; omega
            · go_wp2_with (first | (go_at_call 61; refine (l1Place_c _ _).mono ?_; rintro e w' ⟨rfl, rfl⟩; rw [hp]) | (go_at_call 31; refine (l1Digit_c _ _).mono ?_; rintro e w' ⟨rfl, rfl⟩; rw [hp2]))
              go_roundw
              case rel => exact ⟨k + 1, by omega, by go_num, by rw [HST.out, if_pos HD.out]; exact ho, hb, HMN.out⟩
              case measure => simp [intOf]; omega
          · have HD : Hid (a ≠ q) := by rw [beq_str, decide_eq_false_iff_not] at hd; exact hd
            rcases hpd with hp | ⟨hp, hp2⟩
            · go_wp2_with (first | (go_at_call 61; refine (l1Place_c _ _).mono ?_; rintro e w' ⟨rfl, rfl⟩; rw [hp]) | (at_builtin; refine held ?_))
              unfold Held
              refine app_mv rfl (.tmp 39) (.tmp 46) rfl w.heap.size u4 (busyM (effL g k)) (q, a) ⟨wr.heap.size, 0, none⟩ 1 (by rfl) (by rfl) (own_keep ho ((Below.refl _ _).alloc (Nat.le_refl _) _)) hnw (by omega) (by simp; omega) ?_
              intro v' w3 hown3 hgrow3
              go_wp2
              have hb4 := below_grown hgrow3 (B := w.heap.size) (by simp; omega) (own_block_ge ho)
              go_roundw
              case rel => exact ⟨k + 1, by omega, by go_num, by rw [HST.out, if_neg HD.out]; exact hown3, (hb.alloc hbs _).trans hb4, HMN.out⟩
              case measure => simp [intOf]; omega
            · go_wp2_with (first | (go_at_call 61; refine (l1Place_c _ _).mono ?_; rintro e w' ⟨rfl, rfl⟩; rw [hp]) | (go_at_call 31; refine (l1Digit_c _ _).mono ?_; rintro e w' ⟨rfl, rfl⟩; rw [hp2]) | (at_builtin; refine held ?_))
              unfold Held
              refine app_mv rfl (.tmp 39) (.tmp 46) rfl w.heap.size u4 (busyM (effL g k)) (q, a) ⟨wr.heap.size, 0, none⟩ 1 (by rfl) (by rfl) (own_keep ho ((Below.refl _ _).alloc (Nat.le_refl _) _)) hnw (by omega) (by simp; omega) ?_
              intro v' w3 hown3 hgrow3
              go_wp2
              have hb4 := below_grown hgrow3 (B := w.heap.size) (by simp; omega) (own_block_ge ho)
              go_roundw
              case rel => exact ⟨k + 1, by omega, by go_num, by rw [HST.out, if_neg HD.out]; exact hown3, (hb.alloc hbs _).trans hb4, HMN.out⟩
              case measure => simp [intOf]; omega
        · have hs2 : isS a = false := by simpa using hs
          have hp : isP a = false := by
            rcases Bool.eq_false_or_eq_true (isP a) with h | h
            · rw [isS, h] at hs2; cases hs2
            · exact h
          have hp2 : isD a = false := by
            rcases Bool.eq_false_or_eq_true (isD a) with h | h
            · rw [isS, h, Bool.or_true] at hs2; cases hs2
            · exact h
          have hno : effOk xs = false := HOKk.out hs2
          have HNO := Lib.hid hno
          have HME := Lib.hid (HN.out hno)
          clear hs hs2 hno
          have hE3 := World.ownsRow_lit (e := 47) (base := w.heap.size) (size := 2) wr #[] 0 (by omega) (Nat.zero_le _) rfl
          go_wp2_with (first | (go_at_call 61; refine (l1Place_c _ _).mono ?_; rintro e w' ⟨rfl, rfl⟩; rw [hp]) | (go_at_call 31; refine (l1Digit_c _ _).mono ?_; rintro e w' ⟨rfl, rfl⟩; rw [hp2]))
          go_ret2
          exact ⟨_, by rw [HNO.out]; rfl, by rw [HME.out]; exact hE3, by (repeat' (first | (with_reducible exact Below.refl _ _) | (with_reducible assumption) | (with_reducible refine Below.alloc ?_ ?_ _) | (with_reducible refine Below.drew ?_) | (with_reducible refine Below.setCell ?_ ?_ _) | (with_reducible exact Nat.le_refl _) | omega | ((repeat (first | rewrite [World.size_alloc] | rewrite [World.size_setCell] | rewrite [World.size_drew])); omega) | (simp; omega) | (simp; done)))⟩
      · have hk9 : k = 9 := by omega
        subst hk9
        have hok : effOk xs = true := HYS.out hm.out
        have HOK2 := Lib.hid hok
        have HMM := Lib.hid (HY.out hok)
        clear hok
        go_wp2
        go_ret2
        refine ⟨_, by rw [HOK2.out]; rfl, by rw [HMM.out]; exact ho, hb⟩
  · have hno : effOk xs = false := by rw [effOk, h1]; rfl
    have HNO := Lib.hid hno
    have HME := Lib.hid (effM_no hno)
    have H1 := Lib.hid h1
    clear h1 hno HIO
    go_enter Tryd.func38, Tryd.ntmps38
    go_wp2_with fail
    refine hsv.out.mono ?_
    rintro e w1 ⟨rfl, hb1⟩
    rw [H1.out]
    have bel1 : Below w.heap.size w w1 := ((Below.refl _ _).alloc (Nat.le_refl _) _).trans (hb1.mono (by simp))
    go_wp2
    go_ret2
    exact ⟨_, by rw [HNO.out]; rfl, by rw [HME.out]; exact own_keep hE hb1, bel1⟩
end Go.Proofs.YtinggcjjdgibbabDoor
namespace Go.PM
open Go.RowKit
theorem effM_sh (xs : List St) : (effM xs).length ≤ 65 ∧ ∀ m ∈ effM xs, m.1.size ≤ 64 ∧ m.2.size ≤ 64 := by
  rcases Bool.eq_false_or_eq_true (effOk xs) with h | h
  · rw [effM_yes h]
    refine ⟨by have := busyE_le (effG xs) 9; omega, fun m hm => ?_⟩
    unfold busyM at hm
    obtain ⟨p, hp, rfl⟩ := List.mem_map.1 (List.mem_filter.1 hm).1
    have h1 := isP_size (isP_nm (p := p) (by simpa using hp))
    refine ⟨?_, ?_⟩
    · show (nm p).size ≤ 64
      omega
    · show (ByteArray.mk #[effG xs p]).size ≤ 64
      exact Nat.le_trans (Nat.le_refl 1) (by decide)
  · rw [effM_no h]
    exact ⟨Nat.zero_le _, fun m hm => by cases hm⟩
end Go.PM
namespace Go.Proofs.YtinggcjjdgibbabDoor
open Go.RowKit Go.PM
attribute [local go_sem] Oper.semAt_some

set_option maxHeartbeats 800000 in
theorem drawFormatSequence_c (w : World) (v : Value) (n : Nat) (hv : RdB w w.heap.size v n) :
    Calls Tryd.prog 6 #[v] w fun e w' => ∃ u xs, e = .returned u ∧ w'.ownsRow w.heap.size 49 3 u xs.length (scells xs) ∧ shS 70 xs ∧ Below w.heap.size w w' := by
  have HO := Lib.hid (l13Open_c w v n hv)
  go_enter Tryd.func6, Tryd.ntmps6
  go_wp2_with fail
  refine HO.out.mono ?_
  rintro e w1 ⟨r, rfl, R1, b1⟩
  have hs1 := b1.size
  have hB := R1.1
  have HS := Lib.hid (l2Some_c w1 _ r 0 R1 (by omega))
  go_wp2_with fail
  refine HS.out.mono ?_
  rintro e w2 ⟨u, xs, p', rfl, ho, hsh, R2, hp, g2⟩
  have HSH := Lib.hid hsh
  have ho2 := own_more ho hs1
  have b2 : Below w.heap.size w w2 := b1.trans (below_grown g2 hs1 (fun g e => by cases e; exact hB))
  clear HO HS hsh
  go_wp2
  go_ret
  exact ⟨_, xs, rfl, ho2, HSH.out, b2⟩
set_option maxRecDepth 100000 in
set_option maxHeartbeats 1600000 in
theorem drawParseSequence_c (w : World) (v : Value) (n : Nat) (hv : RdB w w.heap.size v n) :
    Calls Tryd.prog 13 #[v] w fun e w' => ∃ t, e = .returned (.string t) ∧ t.size ≤ 50000 ∧ Below w.heap.size w w' := by
  have HO := Lib.hid (l13Open_c w v n hv)
  go_enter Tryd.func13, Tryd.ntmps13
  go_wp2_with fail
  refine HO.out.mono ?_
  rintro e w1 ⟨r, rfl, R1, b1⟩
  have hs1 := b1.size
  have hB := R1.1
  have hlt : r < w1.heap.size := by obtain ⟨_, _, v, n, _, _, h⟩ := R1; exact h.lt
  have HS := Lib.hid (l2Draw_c w1 _ r 0 R1 (by omega))
  go_wp2_with fail
  refine HS.out.mono ?_
  rintro e w2 ⟨u, xs, p', rfl, ho, hl6, hok, R2, hp, g2⟩
  have hs2 := g2.size
  have hv : svalid xs = true := by rw [svalid_all (fun k hk => hok _ (List.getElem_mem hk))]; exact decide_eq_true (by omega)
  have R : RdS w2 u xs := Rd.of_own ho
  have HF := Lib.hid (spFormatSequence_c xs u w2 R)
  have hpos := sfmtB_pos hv
  have hsz := sfmtB_size xs
  clear HO HS ho R hok hv
  generalize sfmtB xs = s at *
  go_wp2_with fail
  refine HF.out.mono ?_
  rintro e w3 ⟨rfl, b3⟩
  have R3 := R2.keep b3
  have B3 : Below w.heap.size w w3 := (b1.trans (below_grown g2 hs1 (fun g e => by cases e; exact hB))).trans (b3.mono (by omega))
  have hs3 := B3.size
  clear HF b3 R2 g2 b1 R1
  have HP := Lib.hid (pick_c w3 _ r 2 p' R3 (by omega) (by omega) (by omega))
  go_wp2_with fail
  refine HP.out.mono ?_
  rintro e w4 ⟨k, rfl, k0, k1, R4, g4⟩
  have B4 : Below w.heap.size w w4 := B3.trans (below_grown g4 hs3 (fun g e => by cases e; exact hB))
  have hs4 := B4.size
  clear HP g4 B3 R3
  by_cases h0 : k = 0
  · subst h0
    go_wp2
    go_ret
    exact ⟨s, rfl, by omega, B4⟩
  · have t0 : (k == 0) = false := by simpa using h0
    have HP := Lib.hid (pick_c w4 _ r s.size (p' + 1) R4 (by omega) (by omega) (by omega))
    go_wp2_with fail
    refine HP.out.mono ?_
    rintro e w5 ⟨k5, rfl, k50, k51, R5, g5⟩
    obtain ⟨K, rfl⟩ := Int.eq_ofNat_of_zero_le k50
    have hl5 : r < w5.heap.size := by obtain ⟨_, _, v, n, _, _, h⟩ := R5; exact h.lt
    have hd5 : w5.drew.heap.size = w5.heap.size := rfl
    have B5 : Below w.heap.size w w5 := B4.trans (below_grown g5 hs4 (fun g e => by cases e; exact hB))
    have hs5 := B5.size
    have hK : K < s.size := by omega
    clear HP g5 B4 R4 h0 t0
    go_wp2
    have i1 : (K : Int) ≤ (s.size : Int) := by omega
    have i0 : (0 : Int) ≤ (K : Int) := by omega
    refine wp_region_held_drew (S := fun _ => True) (by kernel_rfl) trivial (fun hHeld => ?_)
    refine wpAnyH_take (i := 0) (oi := _) (v := ?_) rfl (by kernel_rfl) (by kernel_rfl) (by kernel_rfl) (fun _ _ _ h => h) (Or.inl ⟨by rfl, by intro w0 _; go_simp; rfl⟩) trivial ?_
    simp only [Act.put, List.getElem_toArray, List.getElem_cons_zero, List.setIfInBounds_toArray, List.set_cons_succ, List.set_cons_zero]
    refine wpAnyH_take (i := 1) (oi := _) (v := ?_) rfl (by kernel_rfl) (by kernel_rfl) (by kernel_rfl) (fun _ _ _ h => h) (Or.inl ⟨by rfl, by intro w0 _; go_simp; rfl⟩) trivial ?_
    simp only [Act.put, List.getElem_toArray, List.getElem_cons_succ, List.getElem_cons_zero, List.setIfInBounds_toArray, List.set_cons_succ, List.set_cons_zero]
    refine wpAnyH_take (i := 2) (oi := _) (v := ?_) rfl (by kernel_rfl) (by kernel_rfl) (by kernel_rfl) (fun _ _ _ h => h) (Or.inl ⟨by rfl, by intro w0 _; go_simp; rfl⟩) trivial ?_
    simp only [Act.put, List.getElem_toArray, List.getElem_cons_succ, List.getElem_cons_zero, List.setIfInBounds_toArray, List.set_cons_succ, List.set_cons_zero]
    refine wpAnyH_take (i := 3) (oi := _) (v := ?_) rfl (by kernel_rfl) (by kernel_rfl) (by kernel_rfl) (fun _ _ _ h => h) (Or.inl ⟨by rfl, by intro w0 _; go_simp; rfl⟩) trivial ?_
    simp only [Act.put, List.getElem_toArray, List.getElem_cons_succ, List.getElem_cons_zero, List.setIfInBounds_toArray, List.set_cons_succ, List.set_cons_zero]
    refine wpAnyH_take (i := 7) (oi := _) (v := ?_) rfl (by kernel_rfl) (by kernel_rfl) (by kernel_rfl) (fun _ _ _ h => h) (Or.inl ⟨by rfl, by intro w0 _; go_simp; rfl⟩) trivial ?_
    simp only [Act.put, List.getElem_toArray, List.getElem_cons_succ, List.getElem_cons_zero, List.setIfInBounds_toArray, List.set_cons_succ, List.set_cons_zero]
    refine wpAnyH_take (i := 8) (oi := _) (v := ?_) rfl (by kernel_rfl) (by kernel_rfl) (by kernel_rfl) (fun _ _ _ h => h) (Or.inl ⟨by rfl, by intro w0 _; go_simp; rfl⟩) trivial ?_
    simp only [Act.put, List.getElem_toArray, List.getElem_cons_succ, List.getElem_cons_zero, List.setIfInBounds_toArray, List.set_cons_succ, List.set_cons_zero]
    refine wpAnyH_take (i := 9) (oi := _) (v := ?_) rfl (by kernel_rfl) (by kernel_rfl) (by kernel_rfl) (fun _ _ _ h => h) (Or.inl ⟨by rfl, by intro w0 _; go_simp; rfl⟩) trivial ?_
    simp only [Act.put, List.getElem_toArray, List.getElem_cons_succ, List.getElem_cons_zero, List.setIfInBounds_toArray, List.set_cons_succ, List.set_cons_zero]
    refine wpAnyH_ready (rs := [4]) (by kernel_rfl) (by simp) ?_
    refine AllReadyH.cons rfl (fun K1 hK1 => ?_) AllReadyH.nil
    go_simp
    refine hK1.out _ _ trivial (fun hHeld2 => ?_)
    clear hK1 K1 hHeld
    try simp only [Act.put, List.getElem_toArray, List.getElem_cons_succ, List.getElem_cons_zero, List.setIfInBounds_toArray, List.set_cons_succ, List.set_cons_zero]
    refine wpAnyH_ready (rs := [5]) (by kernel_rfl) (by simp) ?_
    refine AllReadyH.cons rfl (fun K1 hK1 => ?_) AllReadyH.nil
    go_simp
    go_at_call 35
    refine (of_c _ _ r w5.drew.heap.size 6 (p' + 1 + 1) (fun s => s.size ≤ 40) (Rdr.keep (show Rdr w5.drew 87 w.heap.size r _ from R5) ((Below.refl _ _).alloc (Nat.le_refl _) _)) (by decide) (by decide) (by omega) (Lits.strs _ _ _ 40 (by rfl)) (by omega)).mono ?_
    rintro e w6 ⟨s1, rfl, hz1, R6, g6⟩
    have g6' := grown_trans (grown_below ((Below.refl w5.heap.size w5).drew.alloc (Nat.le_refl _) (.cells #[.string ⟨#[]⟩, .string ⟨#[59]⟩, .string ⟨#[61]⟩, .string ⟨#[126]⟩, .string ⟨#[97]⟩, .string ⟨#[45]⟩] 9)) (some r)) g6
    have B6 : Below w.heap.size w w6 := B5.trans (below_grown g6' hs5 (fun g e => by cases e; exact hB))
    have hs6 := B6.size
    refine hK1.out _ _ trivial (fun hHeld3 => ?_)
    clear hK1 K1 hHeld2 g6 g6' R5 B5
    try simp only [Act.put, List.getElem_toArray, List.getElem_cons_succ, List.getElem_cons_zero, List.setIfInBounds_toArray, List.set_cons_succ, List.set_cons_zero]
    refine wpAnyH_take (i := 6) (oi := _) (v := ?_) rfl (by kernel_rfl) (by kernel_rfl) (by kernel_rfl) (fun _ _ _ h => h) (Or.inl ⟨by rfl, by intro w0 _; go_simp; rw [if_neg (by omega)]⟩) trivial ?_
    simp only [Act.put, List.getElem_toArray, List.getElem_cons_succ, List.getElem_cons_zero, List.setIfInBounds_toArray, List.set_cons_succ, List.set_cons_zero]
    refine wpAnyH_ready (rs := [10]) (by kernel_rfl) (by simp) ?_
    refine AllReadyH.cons rfl (fun K1 hK1 => ?_) AllReadyH.nil
    go_simp
    go_at_call 34
    refine (pick_c w6 _ r 2 _ R6 (by omega) (by omega) (by omega)).mono ?_
    rintro e w7 ⟨k7, rfl, k70, k71, R7, g7⟩
    obtain ⟨J, rfl⟩ := Int.eq_ofNat_of_zero_le k70
    have B7 : Below w.heap.size w w7 := B6.trans (below_grown g7 hs6 (fun g e => by cases e; exact hB))
    refine hK1.out _ _ trivial (fun hHeld4 => ?_)
    clear hK1 K1 hHeld3 g7 R6 B6
    try simp only [Act.put, List.getElem_toArray, List.getElem_cons_succ, List.getElem_cons_zero, List.setIfInBounds_toArray, List.set_cons_succ, List.set_cons_zero]
    have i2 : (K : Int) + (J : Int) ≤ (s.size : Int) := by omega
    have i3 : (0 : Int) ≤ (K : Int) + (J : Int) := by omega
    have hwr : IntKind.i64.wrap ((K : Int) + (J : Int)) = (K : Int) + (J : Int) := by rw [IntKind.wrap_i64]; omega
    refine wpAnyH_take (i := 11) (oi := _) (v := .int .i64 ((K : Int) + (J : Int))) rfl (by kernel_rfl) (by kernel_rfl) (by kernel_rfl) (fun _ _ _ h => h) (Or.inl ⟨by rfl, by intro w0 _; go_simp⟩) trivial ?_
    simp only [Act.put, List.getElem_toArray, List.getElem_cons_succ, List.getElem_cons_zero, List.setIfInBounds_toArray, List.set_cons_succ, List.set_cons_zero]
    refine wpAnyH_take (i := 12) (oi := _) (v := ?_) rfl (by kernel_rfl) (by kernel_rfl) (by kernel_rfl) (fun _ _ _ h => h) (Or.inl ⟨by rfl, by intro w0 _; go_simp; rfl⟩) trivial ?_
    simp only [Act.put, List.getElem_toArray, List.getElem_cons_succ, List.getElem_cons_zero, List.setIfInBounds_toArray, List.set_cons_succ, List.set_cons_zero]
    refine wpAnyH_take (i := 13) (oi := _) (v := ?_) rfl (by kernel_rfl) (by kernel_rfl) (by kernel_rfl) (fun _ _ _ h => h) (Or.inl ⟨by rfl, by intro w0 _; go_simp; rw [if_neg (by omega)]⟩) trivial ?_
    simp only [Act.put, List.getElem_toArray, List.getElem_cons_succ, List.getElem_cons_zero, List.setIfInBounds_toArray, List.set_cons_succ, List.set_cons_zero]
    refine wpAnyH_take (i := 14) (oi := _) (v := ?_) rfl (by kernel_rfl) (by kernel_rfl) (by kernel_rfl) (fun _ _ _ h => h) (Or.inl ⟨by rfl, by intro w0 _; go_simp; rfl⟩) trivial ?_
    simp only [Act.put, List.getElem_toArray, List.getElem_cons_succ, List.getElem_cons_zero, List.setIfInBounds_toArray, List.set_cons_succ, List.set_cons_zero]
    refine wpAnyH_done (by kernel_rfl) ?_ _
    go_wp2
    go_ret
    refine ⟨_, rfl, ?_, B7⟩
    simp only [ByteArray.size_append, ByteArray.size_extract]
    omega
set_option maxRecDepth 100000 in
set_option maxHeartbeats 1600000 in
theorem drawIsRight_c (w : World) (v : Value) (n : Nat) (hv : RdB w w.heap.size v n) :
    Calls Tryd.prog 15 #[v] w fun e w' => ∃ u y xs ys, e = .returned (.tuple #[u, y]) ∧ w'.ownsRow w.heap.size 49 3 u xs.length (scells xs) ∧ w'.ownsRow w.heap.size 47 2 y ys.length (mcells ys) ∧ shS 70 xs ∧ (ys.length ≤ 65 ∧ ∀ m ∈ ys, m.1.size ≤ 64 ∧ m.2.size ≤ 64) ∧ Below w.heap.size w w' := by
  have HO := Lib.hid (l13Open_c w v n hv)
  go_enter Tryd.func15, Tryd.ntmps15
  go_wp2_with fail
  refine HO.out.mono ?_
  rintro e w1 ⟨r, rfl, R1, b1⟩
  have hs1 := b1.size
  have hB := R1.1
  have HS := Lib.hid (l2Some_c w1 _ r 0 R1 (by omega))
  go_wp2_with fail
  refine HS.out.mono ?_
  rintro e w2 ⟨u, xs, p', rfl, ho, hsh, R2, hp, g2⟩
  have HSH := Lib.hid hsh
  have hlt : r < w1.heap.size := by obtain ⟨_, _, v, n, _, _, h⟩ := R1; exact h.lt
  have hs2 := g2.size
  have b2 : Below w.heap.size w w2 := b1.trans (below_grown g2 hs1 (fun g e => by cases e; exact hB))
  have HE := Lib.hid (spEffectOf_c xs u w2 (Rd.of_own ho))
  have HEM := Lib.hid (effM_sh xs)
  clear HO HS hsh
  generalize effM xs = es at *
  generalize effOk xs = eo at *
  go_wp2_with fail
  refine HE.out.mono ?_
  rintro e w3 ⟨y, rfl, hoy, b3⟩
  have ho3 := own_keep ho b3
  have R3 := R2.keep b3
  have hs3 := b3.size
  have B3 : Below w.heap.size w w3 := b2.trans (b3.mono (by omega))
  clear HE ho R2 b3 b2 g2
  have HL := Lib.hid (fun W q (R : Rdr W 87 w.heap.size r q) (hq : q ≤ 1000000) => l1Some_c W w.heap.size r q R hq)
  cases eo
  case false =>
    go_wp2_with fail
    refine (HL.out _ _ R3 (by omega)).mono ?_
    rintro e w5 ⟨z, ys, p5, rfl, hoz, hsz, R5, hp5, g5⟩
    have HSZ := Lib.hid hsz
    have ho5 := own_more (own_grown ho3 g5 (.inl (fun e => by have := own_block_ge ho3 r e; omega))) hs1
    have hz5 := own_more hoz (show w.heap.size ≤ w3.heap.size by omega)
    have B5 : Below w.heap.size w w5 := B3.trans (below_grown g5 (by omega) (fun g e => by cases e; exact hB))
    clear hsz
    go_wp2
    go_ret2
    exact ⟨_, _, xs, ys, rfl, ho5, hz5, HSH.out, HSZ.out, B5⟩
  case true =>
    have HP := Lib.hid (pick_c w3 _ r 2 p' R3 (by omega) (by omega) (by omega))
    go_wp2_with fail
    refine HP.out.mono ?_
    rintro e w4 ⟨k, rfl, k0, k1, R4, g4⟩
    have ho4 := own_grown ho3 g4 (.inl (fun e => by have := own_block_ge ho3 r e; omega))
    have hy4 := own_grown hoy g4 (.inl (fun e => by have := own_block_ge hoy r e; omega))
    have hs4 := g4.size
    have B4 : Below w.heap.size w w4 := B3.trans (below_grown g4 (by omega) (fun g e => by cases e; exact hB))
    clear HP g4 B3 R3 ho3 hoy
    by_cases h0 : k = 0
    · subst h0
      have ho5 := own_more ho4 hs1
      have hy5 := own_more hy4 (show w.heap.size ≤ w2.heap.size by omega)
      clear ho4 hy4
      go_wp2
      go_ret2
      exact ⟨_, _, xs, es, rfl, ho5, hy5, HSH.out, HEM.out, B4⟩
    · have t0 : (k == 0) = false := by simpa using h0
      clear h0
      go_wp2_with fail
      refine (HL.out _ _ R4 (by omega)).mono ?_
      rintro e w5 ⟨z, ys, p5, rfl, hoz, hsz, R5, hp5, g5⟩
      have HSZ := Lib.hid hsz
      have ho5 := own_more (own_grown ho4 g5 (.inl (fun e => by have := own_block_ge ho4 r e; omega))) hs1
      have hz5 := own_more hoz (show w.heap.size ≤ w4.heap.size by omega)
      have B5 : Below w.heap.size w w5 := B4.trans (below_grown g5 (by omega) (fun g e => by cases e; exact hB))
      clear hsz
      go_wp2
      go_ret2
      exact ⟨_, _, xs, ys, rfl, ho5, hz5, HSH.out, HSZ.out, B5⟩
end Go.Proofs.YtinggcjjdgibbabDoor
namespace Go.PM
open Go.RowKit
variable {F : Fence} {n : Nat} {P : Program}
/-- the same contract, of a function that reads what the caller keeps -/
def IterP {α : Type} (Pr : World → Prop) (κ : Nat) (F : Fence) (n : Nat) (P : Program) (gf : Nat) (mk : Value → Array Value) (encs : α → Array Value) (xs : List α) : Prop :=
  ∀ (l : Nat) (J Jx : List α → World → Prop) (W : World),
    OwnFrom W.heap.size J → OwnFrom W.heap.size Jx → (∀ pre A, J pre A → Pr A) →
    (∀ pre x A, J pre A → W.heap.size + κ ≤ A.heap.size → pre ++ [x] <+: xs → YieldAt F (n - 1) P l (encs x) A fun e A' =>
      (e = .returned (.bool true) ∧ J (pre ++ [x]) A' ∧ KeepsIn W.heap.size κ A A' ∧ KeepsFrom W.heap.size A A') ∨ (e = .returned (.bool false) ∧ Jx (pre ++ [x]) A' ∧ A.heap.size ≤ A'.heap.size ∧ KeepsFrom W.heap.size A A')) →
    J [] W →
    CallsIn F n P gf (mk (.func (.yield l) #[] #[])) W fun e W' => (∃ v, e = .returned v) ∧ (J xs W' ∨ ∃ pre, pre <+: xs ∧ Jx pre W')
theorem range_law3 {α : Type} {Pr : World → Prop} {g : Operand} {ps : Array Tmp} {assign body : Code} {Q : Exit → Act → World → Prop} {a : Act} {w : World} (hro : F.round = none) (h1 : 1 ≤ n)
    {gf : Nat} {lf lb : Array Value} (hg : a.eval g = .func (.func gf) lf lb) (hFg : F.fn gf) (eg : ∀ args w, (callFunc gf args).run P w = .ok (.enter gf args) w)
    {encs : α → Array Value} {xs : List α} {κ : Nat} (hit : IterP Pr κ F (n - 1) P gf (fun y => lf ++ #[y] ++ lb) encs xs) (hps : ∀ x, (encs x).size = ps.size)
    (I : List α → World → Prop) (Ix : Code → List α → World → Prop) (hPr : ∀ pre A, I pre A → Pr A) (hI : OwnFrom w.heap.size I) (hIx : ∀ c, OwnFrom w.heap.size (Ix c)) (h0 : I [] w) (Ax : α → Act → World → Prop) (hAx : ∀ x a', OwnFrom w.heap.size (fun (_ : Unit) W => Ax x a' W))
    (hassign : ∀ (l : Nat) (pre : List α) (x : α) (W : World) (K : Act → World → Prop), I pre W → pre ++ [x] <+: xs → w.heap.size + 2 + κ ≤ W.heap.size → (∀ a' W', KeepsNew w.heap.size W W' → I pre W' → Ax x a' W' → K a' W') →
      assign.wpIn (F.inRound l) (n - 1 - 1) P (Exit.then K (fun _ _ _ => False)) { tmps := (ps.zip (encs x)).foldl (fun t (p, v) => t.setIfInBounds p v) a.tmps, defers := [] } W)
    (hbody : ∀ (l : Nat) (pre : List α) (x : α) (a' : Act) (W : World), I pre W → Ax x a' W → pre ++ [x] <+: xs → w.heap.size + 2 + κ ≤ W.heap.size → body.wpIn (F.inRound l) (n - 1 - 1) P (ownPostG w.heap.size (KeepsIn (w.heap.size + 2) κ) I Ix (pre ++ [x]) W) a' W)
    (hdone : ∀ (D : Nat) (W : World), w.heap.size ≤ D → I xs W → W.heap[D]? = some (.deferred (some [])) → Q .normal { a with defers := { target := .collected D, args := #[] } :: a.defers } W)
    (hstop : ∀ (D : Nat) (c : Code) (pre : List α) (W : World), w.heap.size ≤ D → pre <+: xs → Ix c pre W → W.heap[D]? = some (.deferred (some [])) → c.wpIn F n P Q { a with defers := { target := .collected D, args := #[] } :: a.defers } W) :
    (Code.rangeFunc g ps assign body).wpIn F n P Q a w := by
  refine wpIn_rangeFunc fun fn hfn => ?_
  rw [hro]
  have key : ∃ rc : LoopState → Option Code → Loop, rc = fun s j => { state := s, pending := j, fn, tmps := a.tmps, params := ps, assign, body, defers := w.heap.size } := ⟨_, rfl⟩
  obtain ⟨rc, hrc⟩ := key
  let V := (w.alloc (.deferred (some []))).alloc (.loop (rc .ready none))
  -- the two blocks of book-keeping, and that the caller's own facts outlast what is done to them
  let Bk : LoopState → Option Code → World → Prop := fun s j A => A.heap[w.heap.size + 1]? = some (.loop (rc s j)) ∧ A.heap[w.heap.size]? = some (.deferred (some []))
  have bkput : ∀ {s j s' j' A}, Bk s j A → Bk s' j' (A.putObj (w.heap.size + 1) (.loop (rc s' j'))) := fun h =>
    ⟨World.putObj_heap_same (Array.getElem?_eq_some_iff.1 h.1).1, (World.putObj_heap_other (by omega)).trans h.2⟩
  have hVs : V.heap.size = w.heap.size + 2 := by simp [V, World.size_alloc]
  have bknew : ∀ {s j A A' row}, Bk s j A → A.grownBy A' row → (∀ r, row = some r → V.heap.size ≤ r ∧ ∃ o : Obj, A.heap[r]? = some o ∧ o.isCells = false) → Bk s j A' := fun h hg' hr =>
    ⟨(hg'.block _ (Array.getElem?_eq_some_iff.1 h.1).1 (fun e => by have := (hr _ e.symm).1; omega)).trans h.1, (hg'.block _ (Array.getElem?_eq_some_iff.1 h.2).1 (fun e => by have := (hr _ e.symm).1; omega)).trans h.2⟩
  have hV : Bk .ready none V := by
    refine ⟨?_, ?_⟩
    · have := World.alloc_heap_new (w.alloc (.deferred (some []))) (.loop (rc .ready none)); rwa [World.size_alloc] at this
    · exact (Below.heap_alloc _ _ _ (by simp)).trans (World.alloc_heap_new w _)
  have hIV : I [] V := hI.alloc _ (hI.alloc _ h0)
  refine ⟨w.heap.size + 1, [{ target := .collected w.heap.size, args := #[] }], V, { target := .fn (.func gf) lb, args := lf ++ #[.func (.yield (w.heap.size + 1)) #[] #[]] }, V, gf,
    lf ++ #[.func (.yield (w.heap.size + 1)) #[] #[]] ++ lb, V, ?_, ?_, ?_, ?_, fun _ => h1, ?_⟩
  · have := run_enterLoop_outer (P := P) (w := w) fn a.tmps ps assign body
    rw [this]; simp only [V, hrc]
  · simp only [resolve, hg]
    simp [go_sem]
  · intro f' hf'
    simp [Target.leads] at hf'
    subst hf'; exact hFg
  · simp [invoke, go_sem, eg]
  refine (hit (w.heap.size + 1) (fun pre A => I pre A ∧ Bk .ready none A) (fun pre A => ∃ c, Ix c pre A ∧ Bk .done (some c) A) V
    (fun pre A A' row h hg' hr => ⟨hI pre A A' row h.1 hg' (fun r e => ⟨by have := (hr r e).1; omega, (hr r e).2⟩), bknew h.2 hg' hr⟩)
    (fun pre A A' row ⟨c, h, hb⟩ hg' hr => ⟨c, hIx c pre A A' row h hg' (fun r e => ⟨by have := (hr r e).1; omega, (hr r e).2⟩), bknew hb hg' hr⟩) (fun pre A h => hPr pre A h.1) ?_ ⟨hIV, hV⟩).mono ?_
  · rintro pre x A ⟨hi, hb⟩ hsz hpx
    have hy := run_yield (P := P) (args := encs x) hb.1 (by rw [hrc]; exact hps x)
    rw [hrc] at hy
    refine ⟨fn, _, assign, body, hy, roundIn_of_wpIn hfn (hassign _ pre x A _ hi hpx (by omega) ?_)⟩
    intro a' Wa hkn hia hax
    have hlt := (Array.getElem?_eq_some_iff.1 hb.1).1
    replace hb : Bk .ready none Wa := ⟨(hkn.same _ (by omega) hlt).trans hb.1, (hkn.same _ (Nat.le_refl _) (by omega)).trans hb.2⟩
    clear hy hi
    refine ⟨_, run_beginRound hb.1 (by rw [hrc]), ?_⟩
    have hknV : KeepsIn V.heap.size κ A Wa := hkn.toIn (by omega) hsz
    have hkfV : KeepsFrom V.heap.size A Wa := (hkn.mono (by omega)).from
    have hszA : A.heap.size ≤ Wa.heap.size := hkn.size
    replace hsz := Nat.le_trans hsz hszA
    clear hkn
    revert hknV hkfV hszA
    generalize A = A0
    intro hknV hkfV hszA
    obtain ⟨A, rfl⟩ : ∃ A, A = Wa := ⟨_, rfl⟩
    have hb2 : Bk .busy none (A.putObj (w.heap.size + 1) (.loop (rc .busy none))) := bkput hb
    have e2 : ({ rc .ready none with state := .busy } : Loop) = rc .busy none := by rw [hrc]
    rw [e2]
    refine wpIn_mono (hbody _ pre x a' _ (hI.putObj _ hia (by omega) hb.1 rfl) ((hAx x a').putObj (s := ()) _ hax (by omega) hb.1 rfl) hpx (by simp [World.putObj]; omega)) ?_
    have fin : ∀ (j : Option Code) (C : World), KeepsFrom w.heap.size (A.putObj (w.heap.size + 1) (.loop (rc .busy none))) C →
        (Instr.endRound (w.heap.size + 1) j).run P C = .ok (.bool j.isNone) (C.putObj (w.heap.size + 1) (.loop (rc (if j.isNone then .ready else .done) j))) ∧ Bk .busy none C := fun j C hk => by
      have h1 := hk.same _ _ (by omega) hb2.1 rfl
      have h2 := hk.same _ _ (Nat.le_refl _) hb2.2 rfl
      have h3 := run_endRound (P := P) j h1
      refine ⟨?_, h1, h2⟩
      rw [h3]; rw [hrc]
    have kfin : ∀ (o : Obj) (C : World), KeepsFrom w.heap.size (A.putObj (w.heap.size + 1) (.loop (rc .busy none))) C → KeepsFrom V.heap.size A0 (C.putObj (w.heap.size + 1) o) := fun o C hk => by
      refine hkfV.trans ?_
      refine ⟨by have := hk.size; simp [World.putObj] at this ⊢; omega, fun k x hk1 hk2 hk3 => ?_⟩
      rw [World.putObj_heap_other (by omega)]
      exact hk.same k x (by omega) (by rw [World.putObj_heap_other (by omega)]; exact hk2) hk3
    rintro e a3 C hp
    cases e with
    | normal =>
      obtain ⟨hk, hkn, hi3⟩ := hp
      obtain ⟨hr, hb3⟩ := fin none C hk
      refine ⟨_, _, hr, .inl ⟨rfl, ⟨hI.putObj _ hi3 (by omega) hb3.1 rfl, bkput hb3⟩, ?_, kfin _ C hk⟩⟩
      refine ⟨by have := hkn.size; simp [World.putObj] at this ⊢; omega, fun k hk1 hk2 => ?_⟩
      rw [World.putObj_heap_other (by omega), hkn.same k (by omega) (by omega), World.putObj_heap_other (by omega)]
      exact hknV.same k hk1 hk2
    | ret =>
      obtain ⟨hk, hi3⟩ := hp
      obtain ⟨hr, hb3⟩ := fin (some .ret) C hk
      exact ⟨_, _, hr, .inr ⟨rfl, ⟨.ret, (hIx _).putObj _ hi3 (by omega) hb3.1 rfl, bkput hb3⟩, by have := hk.size; simp [World.putObj] at this ⊢; omega, kfin _ C hk⟩⟩
    | exit id =>
      obtain ⟨hk, hi3⟩ := hp
      obtain ⟨hr, hb3⟩ := fin (some (.exit id)) C hk
      exact ⟨_, _, hr, .inr ⟨rfl, ⟨.exit id, (hIx _).putObj _ hi3 (by omega) hb3.1 rfl, bkput hb3⟩, by have := hk.size; simp [World.putObj] at this ⊢; omega, kfin _ C hk⟩⟩
    | goto t =>
      obtain ⟨hk, hi3⟩ := hp
      obtain ⟨hr, hb3⟩ := fin (some (.goto t)) C hk
      exact ⟨_, _, hr, .inr ⟨rfl, ⟨.goto t, (hIx _).putObj _ hi3 (by omega) hb3.1 rfl, bkput hb3⟩, by have := hk.size; simp [World.putObj] at this ⊢; omega, kfin _ C hk⟩⟩
    | panic ch => exact hp.elim
    | outgrown => exact hp.elim
  · rintro e C ⟨⟨v, rfl⟩, (⟨hi, hb⟩ | ⟨pre, hp, c, hi, hb⟩)⟩
    · have h3 := run_endLoop (P := P) hb.1 (by rw [hrc]; simp)
      refine ⟨none, _, by rw [h3, hrc], hdone _ _ (Nat.le_refl _) (hI.putObj _ hi (by omega) hb.1 rfl) ((World.putObj_heap_other (by omega)).trans hb.2)⟩
    · have h3 := run_endLoop (P := P) hb.1 (by rw [hrc]; simp)
      refine ⟨some c, _, by rw [h3, hrc], hstop _ c pre _ (Nat.le_refl _) hp ((hIx c).putObj _ hi (by omega) hb.1 rfl) ((World.putObj_heap_other (by omega)).trans hb.2)⟩
end Go.PM
namespace Go.PM
open Go.RowKit
def leftV : Value → Value → Nat
  | .string s, .bool true => s.size + 1
  | _, _ => 0
end Go.PM
namespace Go.Proofs.YtinggcjjdgibbabDoor
open Go.RowKit Go.PM

set_option maxRecDepth 100000 in
set_option maxHeartbeats 1600000 in
theorem parts_iter (t : ByteArray) (c : UInt8) (b1 b2 n : Nat) (ht : t.size ≤ 1048576) (hn : 1 ≤ n) :
    IterP (fun A => At A b1 9 #[.string t] ∧ At A b2 9 #[.string ⟨#[c]⟩]) 0 Fence.wide n Tryd.prog 54 (fun y => #[] ++ #[y] ++ #[.pointer (some ⟨b1, 0, none⟩), .pointer (some ⟨b2, 0, none⟩)]) (fun s : ByteArray => #[.string s]) (pcsB c t) := by
  intro l J Jx W hJ hJx hP hY h0
  obtain ⟨hA1, hA2⟩ := hP _ _ h0
  have c1 : W.cell? ⟨b1, 0, none⟩ = some (.string t) := hA1.cell 0
  have c2 : W.cell? ⟨b2, 0, none⟩ = some (.string ⟨#[c]⟩) := hA2.cell 0
  have HC := Lib.hid (fun s W hs => strCut_c s c W hs)
  have HB := Lib.hid (fun s => pcsB_cut c s)
  have HZ := Lib.hid (fun s => cutB_size c s)
  have HL := Lib.hid (fun s h => cutB_less c s h)
  refine callsIn_of_wp Tryd.func54 rfl trivial ?_ rfl
  simp only [Tryd.ntmps54, List.size_toArray, List.length_cons, List.length_nil, Nat.reduceAdd, Nat.reduceSub, Array.replicate_succ, Array.replicate_zero, List.push_toArray, List.append_toArray, List.nil_append, List.cons_append]
  gi_wp2_with fail
  refine ⟨trivial, callsIn_wide.2 ((HC.out t _ ht).mono ?_)⟩
  rintro e w1 ⟨rfl, hb1⟩
  have h1 := HB.out t
  have hz1 := HZ.out t
  have hJ1 : J [] w1 := hJ _ _ _ none h0 (grown_below hb1 none) (fun r e => by cases e)
  have hs1 := hb1.size
  clear c1 c2 hA1 hA2 h0
  gi_wp2
  gi_loopw [4, 5, 6] (fun part rest more wr => ∃ (pre : List ByteArray) (p r : ByteArray) (m : Bool), part = .string p ∧ rest = .string r ∧ more = .bool m ∧ Hid (pre ++ (if m then p :: pcsB c r else [p]) = pcsB c t) ∧ r.size ≤ 1048576 ∧ J pre wr ∧ W.heap.size ≤ wr.heap.size) (fun _ r m _ => leftV r m)
  case atStart =>
    refine ⟨[], _, _, _, rfl, rfl, rfl, ?_, by omega, hJ1, hs1⟩
    show _ = _
    rw [h1, List.nil_append]
  case round =>
    obtain ⟨pre, p, r, m, rfl, rfl, rfl, hpr, hr, hj, hsz⟩ := hrel
    have hpre : pre ++ [p] <+: pcsB c t := by
      rw [← hpr.out]
      cases m
      · exact List.prefix_refl _
      · exact ⟨pcsB c r, by simp⟩
    obtain ⟨fn, tmps, assign, body, hy, hR⟩ := hY pre p wr hj hsz hpre
    cases m with
    | false =>
      have hx : pre ++ [p] = pcsB c t := hpr.out
      gi_wp2
      refine hR.mono ?_
      rintro e W3 (⟨rfl, hJ3, hK3, _⟩ | ⟨rfl, hJx3, _⟩)
      · rw [hx] at hJ3
        gi_wp2
        go_end0
        exact ⟨⟨_, rfl⟩, .inl hJ3⟩
      · gi_wp2
        go_end0
        exact ⟨⟨_, rfl⟩, .inr ⟨_, hpre, hJx3⟩⟩
    | true =>
      gi_wp2
      refine hR.mono ?_
      rintro e W3 (⟨rfl, hJ3, hK3, _⟩ | ⟨rfl, hJx3, _⟩)
      · have hsz3 := Nat.le_trans hsz hK3.size
        obtain ⟨_, hA2⟩ := hP _ _ hJ3
        have c2 : W3.cell? ⟨b2, 0, none⟩ = some (.string ⟨#[c]⟩) := hA2.cell 0
        have hpx : Hid ((pre ++ [p]) ++ pcsB c r = pcsB c t) := by show _ = _; rw [← hpr.out]; simp
        have hb := HB.out r
        have hzr := HZ.out r
        have hlr := HL.out r
        have hcr := Lib.hid (HC.out r W3 hr)
        generalize cutB r c = q at *
        obtain ⟨p2, r2, m2⟩ := q
        simp only at *
        gi_wp2_with fail
        refine ⟨trivial, callsIn_wide.2 (hcr.out.mono ?_)⟩
        rintro e w4 ⟨rfl, hb4⟩
        have hJ4 : J (pre ++ [p]) w4 := hJ _ _ _ none hJ3 (grown_below hb4 none) (fun r e => by cases e)
        have hs4 := hb4.size
        gi_wp2
        go_roundw
        case rel => exact ⟨pre ++ [p], p2, r2, m2, rfl, rfl, rfl, by show _ = _; rw [← hpx.out, hb], by omega, hJ4, by omega⟩
        case measure =>
          cases m2
          · show 0 < r.size + 1; omega
          · have := hlr rfl
            show r2.size + 1 < r.size + 1
            omega
      · gi_wp2
        go_end0
        exact ⟨⟨_, rfl⟩, .inr ⟨_, hpre, hJx3⟩⟩
end Go.Proofs.YtinggcjjdgibbabDoor
namespace Go.PM
open Go.RowKit
open Go.Lib (indexByte)
/-- what a cut at '=' makes of a piece -/
def cutM (x : ByteArray) : Mv := ((cutB x 61).1, (cutB x 61).2.1)
theorem cutM_good (x : ByteArray) (h1 : pOk x = true) (h2 : mok (pM x) = true) : cutM x = pM x := by
  have h3 : x.size = 3 := by
    rcases Nat.decEq x.size 3 with h | h
    · rw [pOk_size h] at h1; cases h1
    · exact h
  obtain ⟨a, e, c, rfl⟩ := three_of_size h3
  have he : e = 61 := by simpa [pOk] using h1
  subst he
  have ha : isP ⟨#[a]⟩ = true := by
    unfold mok at h2; rw [Bool.and_eq_true] at h2
    exact h2.1
  have hne : ¬ a = 61 := by
    intro e
    subst e
    revert ha
    decide +kernel
  have hi : indexByte (ByteArray.mk #[a, 61, c]).data.toList 61 = 1 := by
    show indexByte ([a] ++ 61 :: [c]) 61 = 1
    rw [ix_some 61 [a] [c] (by simp; exact fun h => hne h.symm)]
    rfl
  unfold cutM cutB
  rw [hi, if_pos (by decide)]
  rfl
theorem cutM_ok (x : ByteArray) (h : mok (cutM x) = true) : pOk x = true ∧ mok (pM x) = true := by
  have hm := h
  unfold mok at h; rw [Bool.and_eq_true] at h
  obtain ⟨hp, hs⟩ := h
  have s1 := isP_size hp
  have s2 := isS_size hs
  by_cases hi : 0 ≤ indexByte x.data.toList 61
  · have hB : cutB x 61 = (x.extract 0 (indexByte x.data.toList 61).toNat, x.extract ((indexByte x.data.toList 61).toNat + 1) x.size, true) := if_pos hi
    have hmem := (indexByte_mem _ _).1 hi
    have hlt := ixB_lt x.data.toList 61
    rw [size_data] at hlt
    unfold cutM at s1 s2 hm
    rw [hB] at s1 s2 hm
    simp only [ByteArray.size_extract] at s1 s2
    have h3 : x.size = 3 := by omega
    have hk : (indexByte x.data.toList 61).toNat = 1 := by omega
    rw [hk] at hm
    obtain ⟨l1, l2, e, hn⟩ := split_at 61 _ hmem
    have hl : l1.length = 1 := by
      have := ix_some 61 l1 l2 hn
      rw [← e] at this
      omega
    obtain ⟨a, b, c, rfl⟩ := three_of_size h3
    match l1, hl with
    | [a'], _ =>
      have e' : [a, b, c] = a' :: 61 :: l2 := e
      have hb : b = 61 := by simp at e'; exact e'.2.1
      subst hb
      exact ⟨rfl, hm⟩
  · have hB : cutB x 61 = (x, ⟨#[]⟩, false) := if_neg hi
    unfold cutM at s2
    rw [hB] at s2
    cases s2
theorem cutM_mok (x : ByteArray) : mok (cutM x) = (pOk x && mok (pM x)) := by
  rw [Bool.eq_iff_iff, Bool.and_eq_true]
  exact ⟨cutM_ok x, fun ⟨h1, h2⟩ => by rw [cutM_good x h1 h2]; exact h2⟩
theorem map_good {ps : List ByteArray} (h : ∀ x ∈ ps, pOk x = true ∧ mok (pM x) = true) : ps.map cutM = ps.map pM :=
  List.map_congr_left fun x hx => cutM_good x (h x hx).1 (h x hx).2
theorem MV_cut (ps : List ByteArray) : MV (ps.map cutM) ↔ ps.all pOk = true ∧ MV (ps.map pM) := by
  constructor
  · intro h
    have h2 : ∀ x ∈ ps, pOk x = true ∧ mok (pM x) = true := fun x hx => cutM_ok x (h.1 _ (List.mem_map.2 ⟨x, hx, rfl⟩))
    refine ⟨List.all_eq_true.2 fun x hx => (h2 x hx).1, ?_⟩
    rw [← map_good h2]; exact h
  · rintro ⟨h1, h2⟩
    have h3 : ∀ x ∈ ps, pOk x = true ∧ mok (pM x) = true := fun x hx => ⟨List.all_eq_true.1 h1 x hx, h2.1 _ (List.mem_map.2 ⟨x, hx, rfl⟩)⟩
    rw [map_good h3]; exact h2
/-- what the program makes of a text that is not "-" -/
theorem prs_cut {t : ByteArray} (h0 : ¬ t = ⟨#[45]⟩) : prsOk t = mvalid ((pcsB 44 t).map cutM) ∧ prsM t = if mvalid ((pcsB 44 t).map cutM) then (pcsB 44 t).map cutM else [] := by
  have e1 : prsOk t = ((cutP t 44).all pOk && mvalid (prsL t)) := by rw [prsOk, decide_eq_false h0]; rfl
  have e2 : prsM t = if (cutP t 44).all pOk && mvalid (prsL t) then prsL t else [] := if_neg h0
  have e3 : ((cutP t 44).all pOk && mvalid (prsL t)) = mvalid ((pcsB 44 t).map cutM) := by
    rw [Bool.eq_iff_iff, Bool.and_eq_true]
    simp only [mvalid, decide_eq_true_eq]
    rw [MV_cut, prsL, cutP_pcs]
  rw [e1, e2, e3]
  refine ⟨rfl, ?_⟩
  by_cases h : mvalid ((pcsB 44 t).map cutM) = true
  · rw [if_pos h, if_pos h]
    have h2 : MV ((pcsB 44 t).map cutM) := by simpa [mvalid] using h
    have h3 : ∀ x ∈ pcsB 44 t, pOk x = true ∧ mok (pM x) = true := fun x hx => cutM_ok x (h2.1 _ (List.mem_map.2 ⟨x, hx, rfl⟩))
    rw [map_good h3, prsL, cutP_pcs]
  · rw [if_neg h, if_neg h]
theorem prsM_len (t : ByteArray) : (prsM t).length ≤ 9 := by
  unfold prsM
  split
  · exact Nat.zero_le _
  · split
    · next h =>
      rw [Bool.and_eq_true] at h
      have h2 : MV (prsL t) := by simpa [mvalid] using h.2
      exact MV_len h2
    · exact Nat.zero_le _
theorem MV_prefix {a b : List Mv} (h : a <+: b) (hb : MV b) : MV a := by
  obtain ⟨c, rfl⟩ := h
  have := MV_take hb a.length
  rwa [List.take_left] at this
end Go.PM
namespace Go.PM
open Go.RowKit
theorem pcs_mem {t x : ByteArray} {pre : List ByteArray} (h : pre ++ [x] <+: pcsB 44 t) : x.size ≤ t.size := by
  have : x ∈ pcsB 44 t := h.mem (List.mem_append_right _ (List.mem_singleton_self x))
  rw [← cutP_pcs] at this
  exact cutP_size this
theorem tabC_one (f : Nat → ByteArray) : (tabC f).all (·.oneCell') = true := by simp [tabC, Value.oneCell']
theorem kf_grown {B : Nat} {A A' : World} {row : Option Nat} (hg : A.grownBy A' row) (hr : ∀ g o, row = some g → B ≤ g → A.heap[g]? = some o → o.isCells = true) : KeepsFrom B A A' :=
  ⟨hg.size, fun k o hk h1 h2 => (hg.block k (Array.getElem?_eq_some_iff.1 h1).1 (fun e => by have := hr k o e.symm hk h1; rw [h2] at this; cases this)).trans h1⟩
theorem own_cells {w : World} {base : Nat} {e : TypeId} {size n : Nat} {v : Value} {cs : List Value} (h : w.ownsRow base e size v n cs) : ∀ g o, v.ownBlock = some g → w.heap[g]? = some o → o.isCells = true := by
  intro g o e1 e2
  rcases h.2 with ⟨rfl, _⟩ | ⟨g2, cap, cur, rfl, _, hh, _⟩
  · cases e1
  · cases e1
    rw [hh] at e2
    cases e2
    rfl
end Go.PM
namespace Go.Proofs.YtinggcjjdgibbabDoor
open Go.RowKit Go.PM
attribute [local go_sem] Oper.semAt_some

theorem partsOf_c (t s : ByteArray) (w : World) :
    Calls Tryd.prog 27 #[.string t, .string s] w fun e w' => e = .returned (.func (.func 54) #[] #[.pointer (some ⟨w.heap.size, 0, none⟩), .pointer (some ⟨w.heap.size + 1, 0, none⟩)]) ∧ At w' w.heap.size 9 #[.string t] ∧ At w' (w.heap.size + 1) 9 #[.string s] ∧ Below w.heap.size w w' := by
  go_enter Tryd.func27, Tryd.ntmps27
  go_wp2
  go_ret
  refine ⟨rfl, (At.new _ _ _).alloc _, ?_, by (repeat' (first | (with_reducible exact Below.refl _ _) | (with_reducible assumption) | (with_reducible refine Below.alloc ?_ ?_ _) | (with_reducible refine Below.drew ?_) | (with_reducible refine Below.setCell ?_ ?_ _) | (with_reducible exact Nat.le_refl _) | omega | ((repeat (first | rewrite [World.size_alloc] | rewrite [World.size_setCell] | rewrite [World.size_drew])); omega) | (simp; omega) | (simp; done)))⟩
  have := At.new (w.alloc (.cells #[.string t] 9)) 9 #[.string s]
  rwa [World.size_alloc] at this
end Go.Proofs.YtinggcjjdgibbabDoor
namespace Go.PM
open Go.RowKit
def mdig : Nat → Nat → List UInt8
  | 0, _ => []
  | f + 1, n => if n = 0 then [] else mdig f (n / 10) ++ [UInt8.ofNat (48 + n % 10)]
def mT (k : Nat) : ByteArray := if k = 0 then ⟨#[109, 48]⟩ else ⟨(109 :: mdig k k).toArray⟩
theorem mdig_zero (f : Nat) : mdig f 0 = [] := by cases f <;> simp [mdig]
theorem mdig_step (f n : Nat) (h : n ≤ f) (h0 : 0 < n) : ∃ f', f = f' + 1 ∧ n / 10 ≤ f' ∧ mdig f n = mdig f' (n / 10) ++ [UInt8.ofNat (48 + n % 10)] := by
  cases f with
  | zero => omega
  | succ f => exact ⟨f, rfl, by omega, by simp [mdig]; omega⟩
end Go.PM
namespace Go.Proofs.YtinggcjjdgibbabDoor
open Go.RowKit Go.PM

theorem conv_one (W : World) (c : Int) : (convert 22 9 (.slice (some ⟨W.heap.size, 0, none⟩) 1 1)).run Tryd.prog (W.alloc (.cells #[.int .u8 c] 5)) =
    .ok (.string ⟨#[UInt8.ofNat c.toNat]⟩) (W.alloc (.cells #[.int .u8 c] 5)) := by
  rw [run_convert_bytes_string _ _ _ _ _ _ _ Tryd.underlying22 Tryd.underlying5 Tryd.underlying9]
  have hl : (loadCells ⟨W.heap.size, 0, none⟩ 1).run Tryd.prog (W.alloc (.cells #[.int .u8 c] 5)) = .ok ([c].map (Value.int .u8)).toArray (W.alloc (.cells #[.int .u8 c] 5)) :=
    run_loadCells_list (P := Tryd.prog) (W.alloc (.cells #[.int .u8 c] 5)) ⟨W.heap.size, 0, none⟩ [Value.int .u8 c] (fun j v hj => by
      cases j with
      | zero =>
        simp [Addr.add] at hj ⊢
        exact hj
      | succ j => simp at hj)
  rw [run_bytesToString (ns := [c]) _ _ _ _ hl]
  rfl

set_option maxRecDepth 100000 in
set_option maxHeartbeats 800000 in
theorem markText_c (k : Nat) (w : World) (h1 : 1 ≤ k) (h2 : k ≤ 8388608) :
    Calls Tryd.prog 49 #[.int .i64 k] w fun e w' => e = .returned (.string (mT k)) ∧ Below w.heap.size w w' := by
  have hp : ¬ (k : Int) ≤ 0 := by omega
  go_enter Tryd.func49, Tryd.ntmps49
  go_wp2
  go_loopw [0, 3] (fun i o wr => ∃ (n f : Nat) (t : ByteArray), i = .int .i64 n ∧ o = .string t ∧ t.size + n ≤ k ∧ n ≤ f ∧ Hid (mdig k k = mdig f n ++ t.data.toList) ∧ Below w.heap.size w wr) (fun i _ _ => (intOf i).toNat)
  case atStart => exact ⟨k, k, ⟨#[]⟩, rfl, rfl, Nat.le_of_eq (Nat.zero_add _), by omega, (List.append_nil _).symm, Below.refl _ _⟩
  case round =>
    obtain ⟨n, f, t, rfl, rfl, hs, hf, hd, hb⟩ := hrel
    have hbs := hb.size
    by_cases h0 : 0 < n
    · obtain ⟨f', hff, hf', hstep⟩ := mdig_step f n hf h0
      have hcv := conv_one wr (48 + (n : Int) % 10)
      have hcn : UInt8.ofNat (48 + (n : Int) % 10).toNat = UInt8.ofNat (48 + n % 10) := by
        rw [show (48 + (n : Int) % 10).toNat = 48 + n % 10 by omega]
      rw [hcn] at hcv
      have HST := Lib.hid hstep
      have HFF := Lib.hid hff
      generalize UInt8.ofNat (48 + n % 10) = c at *
      have hc1 : (⟨#[c]⟩ : ByteArray).size ≤ 1 := Nat.le_refl _
      clear hstep hff hcn
      go_wp2
      go_roundw
      case rel =>
        refine ⟨n / 10, f', _, by go_num, rfl, ?_, hf', ?_, by (repeat' (first | (with_reducible exact Below.refl _ _) | (with_reducible assumption) | (with_reducible refine Below.alloc ?_ ?_ _) | (with_reducible refine Below.drew ?_) | (with_reducible refine Below.setCell ?_ ?_ _) | (with_reducible exact Nat.le_refl _) | omega | ((repeat (first | rewrite [World.size_alloc] | rewrite [World.size_setCell] | rewrite [World.size_drew])); omega) | (simp; omega) | (simp; done)))⟩
        · simp only [ByteArray.size_append]; omega
        · show _ = _
          rw [hd.out, HST.out]; simp
      case measure => simp [intOf]; omega
    · have hn0 : n = 0 := by omega
      have h3 := hd.out
      rw [hn0, mdig_zero, List.nil_append] at h3
      have HT : Hid ((⟨#[109]⟩ : ByteArray) ++ t = mT k) := by
        show _ = _
        unfold mT
        rw [if_neg (by omega), h3]
        exact Go.WideShapes.bytes_inj (by simp)
      clear h3 hn0
      go_wp2
      go_ret
      exact ⟨by rw [← HT.out]; rfl, hb⟩
theorem markText_i (k : Int) (w : World) (h1 : 1 ≤ k) (h2 : k ≤ 8388608) :
    Calls Tryd.prog 49 #[.int .i64 k] w fun e w' => e = .returned (.string (mT k.toNat)) ∧ Below w.heap.size w w' := by
  obtain ⟨n, rfl⟩ := Int.eq_ofNat_of_zero_le (show 0 ≤ k by omega)
  exact markText_c n w (by omega) (by omega)
/-- the cells behind n marked moves, the first mark being number k -/
def marks : Nat → Nat → List Mv
  | 0, _ => []
  | n + 1, k => (mT k, mT (k + 1)) :: marks n (k + 2)
theorem marks_length (n k : Nat) : (marks n k).length = n := by
  induction n generalizing k with
  | zero => rfl
  | succ n ih => simp [marks, ih]
theorem marks_at (n k i : Nat) (h : i < (marks n k).length) : (marks n k)[i] = (mT (k + 2 * i), mT (k + 2 * i + 1)) := by
  induction n generalizing k i with
  | zero => simp [marks] at h
  | succ n ih =>
    cases i with
    | zero => rfl
    | succ i =>
      simp only [marks, List.getElem_cons_succ]
      rw [ih]
      congr 2 <;> omega
/-- the first i of the moves are marked -/
def mmix (xs : List Mv) (i k : Nat) : List Mv := marks i k ++ xs.drop i
theorem marks_snoc (i k : Nat) : marks (i + 1) k = marks i k ++ [(mT (k + 2 * i), mT (k + 2 * i + 1))] := by
  induction i generalizing k with
  | zero => rfl
  | succ i ih =>
    rw [marks, ih (k + 2)]
    simp only [marks, List.cons_append]
    rw [show k + 2 + 2 * i = k + 2 * (i + 1) by omega]
theorem mmix_length (xs : List Mv) (i k : Nat) (h : i ≤ xs.length) : (mmix xs i k).length = xs.length := by
  simp [mmix, marks_length]; omega
theorem mmix_set (xs : List Mv) (i k : Nat) (h : i < xs.length) : ((mcells (mmix xs i k)).set (i * 2) (.string (mT (k + 2 * i)))).set (i * 2 + 1) (.string (mT (k + 2 * i + 1))) = mcells (mmix xs (i + 1) k) := by
  have hl : (mcells (marks i k)).length = i * 2 := by rw [mcells_length, marks_length]
  unfold mmix
  rw [marks_snoc, List.drop_eq_getElem_cons h, mcells_append, mcells_append, mcells_append, mcells_cons]
  rw [List.set_append_right _ _ (by omega), List.set_append_right _ _ (by omega), hl, Nat.sub_self, show i * 2 + 1 - i * 2 = 1 by omega]
  simp [mcells]

end Go.Proofs.YtinggcjjdgibbabDoor
namespace Go.PM
open Go.RowKit
def ssize : List St → Nat
  | [] => 0
  | x :: xs => x.2.1.size + x.2.2.size + 1 + ssize xs
theorem ssize_len (xs : List St) : xs.length ≤ ssize xs := by
  induction xs with
  | nil => simp [ssize]
  | cons x xs ih => simp only [ssize, List.length_cons]; omega
theorem ssize_append (xs ys : List St) : ssize (xs ++ ys) = ssize xs + ssize ys := by
  induction xs with
  | nil => simp [ssize]
  | cons x xs ih => simp only [List.cons_append, ssize, ih]; omega
theorem ssize_take_succ (xs : List St) (k : Nat) (hk : k < xs.length) : ssize (xs.take (k+1)) = ssize (xs.take k) + xs[k].2.1.size + xs[k].2.2.size + 1 := by
  rw [take_snoc xs k hk, ssize_append]; simp only [ssize]; omega
def zSt : List Value := [.int .i64 0, .string ⟨#[]⟩, .string ⟨#[]⟩]
def shalf (xs : List St) (k : Nat) : List Value := scells (xs.take k) ++ (List.replicate (xs.length - k) zSt).flatten
theorem shalf_at (xs : List St) (k : Nat) (hk : k < xs.length) : (shalf xs k)[k*3]? = some (Value.int .i64 0) ∧ (shalf xs k)[k*3+1]? = some (Value.string ⟨#[]⟩) ∧ (shalf xs k)[k*3+2]? = some (Value.string ⟨#[]⟩) := by
  have hl : (scells (xs.take k)).length = k * 3 := by rw [scells_length, List.length_take]; omega
  obtain ⟨d, hd⟩ : ∃ d, xs.length - k = d + 1 := ⟨xs.length - k - 1, by omega⟩
  unfold shalf
  rw [hd, List.replicate_succ, List.flatten_cons]
  refine ⟨?_, ?_, ?_⟩
  · rw [List.getElem?_append_right (by omega), hl]; simp [zSt]
  · rw [List.getElem?_append_right (by omega), hl, show k * 3 + 1 - k * 3 = 1 by omega]; simp [zSt]
  · rw [List.getElem?_append_right (by omega), hl, show k * 3 + 2 - k * 3 = 2 by omega]; simp [zSt]
theorem shalf_set (xs : List St) (k : Nat) (hk : k < xs.length) : (((shalf xs k).set (k*3) (.int .i64 xs[k].1)).set (k*3+1) (.string xs[k].2.1)).set (k*3+2) (.string xs[k].2.2) = shalf xs (k+1) := by
  have hl : (scells (xs.take k)).length = k * 3 := by rw [scells_length, List.length_take]; omega
  obtain ⟨d, hd⟩ : ∃ d, xs.length - k = d + 1 := ⟨xs.length - k - 1, by omega⟩
  unfold shalf
  rw [hd, List.replicate_succ, List.flatten_cons, show xs.length - (k+1) = d by omega, take_snoc xs k hk, scells_append]
  rw [List.set_append_right _ _ (by omega), List.set_append_right _ _ (by omega), List.set_append_right _ _ (by omega), hl]
  rw [show k * 3 - k * 3 = 0 by omega, show k * 3 + 1 - k * 3 = 1 by omega, show k * 3 + 2 - k * 3 = 2 by omega]
  simp [scells, zSt]
theorem shalf_zero (xs : List St) : shalf xs 0 = (List.replicate xs.length zSt).flatten := by simp [shalf, scells]
theorem shalf_full (xs : List St) : shalf xs xs.length = scells xs := by simp [shalf]
def stEq (k : Int) (a b : ByteArray) (k' : Int) (a' b' : ByteArray) : Bool := decide (k = k' ∧ a = a' ∧ b = b')
end Go.PM
namespace Go.Proofs.YtinggcjjdgibbabDoor
open Go.RowKit Go.PM

set_option maxHeartbeats 400000 in
theorem szStep_c (k : Int) (a b : ByteArray) (left : Int) (w : World) (h0 : 0 ≤ left) (h1 : left ≤ 1048576) (ha : a.size ≤ 9223372036854775807) (hb : b.size ≤ 9223372036854775807) :
    Calls Tryd.prog 46 #[.agg #[.int .i64 k, .string a, .string b], .int .i64 left] w fun e w' => (∃ r : Int, e = .returned (.int .i64 r) ∧ (0 ≤ r → r + a.size + b.size = left) ∧ r ≤ left) ∧ Below w.heap.size w w' := by
  go_enter Tryd.func46, Tryd.ntmps46
  go_wp2_with fail
  refine (szMove_c a b left _ h0 h1 ha hb).mono ?_
  rintro e w1 ⟨⟨r, rfl, hr, hq⟩, hb1⟩
  have HR := Lib.hid hr
  clear hr
  have hb2 : Below w.heap.size w w1 := ((Below.refl _ _).alloc (Nat.le_refl _) _).trans (hb1.mono (by simp))
  by_cases hn : r < 0
  · go_wp2
    go_ret
    exact ⟨⟨-1, rfl, by omega, by omega⟩, hb2⟩
  · go_wp2
    go_ret
    exact ⟨⟨r, rfl, HR.out, hq⟩, hb2⟩
set_option maxHeartbeats 400000 in
theorem szStepS_c (xs : List St) (v : Value) (left : Int) (w : World) (h0 : 0 ≤ left) (h1 : left ≤ 1048576) (hx : RdS w v xs) (hz : ∀ m ∈ xs, m.2.1.size ≤ 9223372036854775807 ∧ m.2.2.size ≤ 9223372036854775807) :
    Calls Tryd.prog 18 #[v, .int .i64 left] w fun e w' => (∃ r : Int, e = .returned (.int .i64 r) ∧ (0 ≤ r → r + ssize xs = left) ∧ r ≤ left) ∧ Below w.heap.size w w' := by
  obtain ⟨A, cap, rfl, hn, hc, hcell⟩ := hx.open
  by_cases c1 : left - (xs.length : Int) < 0
  · go_enter Tryd.func18, Tryd.ntmps18
    go_wp2
    go_ret
    exact ⟨⟨-1, rfl, by omega, by omega⟩, Below.refl _ _⟩
  go_enter Tryd.func18, Tryd.ntmps18
  go_wp2
  go_loopw [1, 5] (fun l i wr => ∃ (k : Nat) (r : Int), k ≤ xs.length ∧ i = .int .i64 k ∧ l = .int .i64 r ∧ 0 ≤ r ∧ r ≤ 1048576 ∧ r ≤ left ∧ Hid (r + ssize (xs.take k) + (xs.length - k) = left) ∧ Below w.heap.size w wr) (fun _ i _ => xs.length - (intOf i).toNat)
  case atStart => exact ⟨0, _, by omega, rfl, rfl, by omega, by omega, by omega, by show _ = _; simp [ssize], Below.refl _ _⟩
  case round =>
    obtain ⟨k, r, hk, rfl, rfl, hr0, hr1, hr2, hr3, hb⟩ := hrel
    by_cases hlt : k < xs.length
    · obtain ⟨b, off, rfl, hbl, hc1, hc2, hc3⟩ := hcell k hlt
      have hd1 := (hb.cell (p := ⟨b, off + k * 3, none⟩) hbl).trans hc1
      have hd2 := (hb.cell (p := ⟨b, off + k * 3 + 1, none⟩) hbl).trans hc2
      have hd3 := (hb.cell (p := ⟨b, off + k * 3 + 2, none⟩) hbl).trans hc3
      have hzz := hz xs[k] (List.getElem_mem hlt)
      clear hc1 hc2 hc3
      have hts := ssize_take_succ xs k hlt
      have HR : Hid (∀ r' : Int, r' + (xs[k].2.1.size : Int) + xs[k].2.2.size = r → r' + ssize (xs.take (k+1)) + (xs.length - ((k + 1 : Nat) : Int)) = left) := by
        intro r' h'; have := hr3; unfold Hid at this; rw [hts]; push_cast; omega
      clear hts hcell
      go_wp2_with fail
      refine (szStep_c _ _ _ r _ hr0 hr1 hzz.1 hzz.2).mono ?_
      rintro e w' ⟨⟨r', rfl, hr4, hr5⟩, hb'⟩
      have hr6 := Lib.hid hr4; clear hr4
      by_cases hneg : r' < 0
      · go_wp2
        go_ret
        exact ⟨⟨-1, rfl, by omega, by omega⟩, hb.trans (hb'.mono hb.size)⟩
      · go_wp2
        go_roundw
        case rel => exact ⟨k + 1, r', by omega, by go_num, rfl, by omega, by omega, by omega, HR.out _ (hr6.out (by omega)), hb.trans (hb'.mono hb.size)⟩
        case measure => simp [intOf]; omega
    · have hk' : k = xs.length := by omega
      have hr3' := hr3.out
      rw [hk', List.take_of_length_le (Nat.le_refl _)] at hr3'
      have HR : Hid (r + (ssize xs : Int) = left) := by show _ = _; omega
      clear hr3' hk'
      go_wp2
      go_ret
      exact ⟨⟨r, rfl, fun _ => HR.out, hr2⟩, hb⟩
theorem toStep_c (k : Int) (a b : ByteArray) (w : World) :
    Calls Tryd.prog 47 #[.agg #[.int .i64 k, .string a, .string b]] w fun e w' => e = .returned (.agg #[.int .i64 k, .string a, .string b]) ∧ Below w.heap.size w w' := by
  have hA1 : At (((w.alloc (.cells #[.int .i64 k, .string a, .string b] 80)).alloc (.cells #[.int .i64 0, .string ⟨#[]⟩, .string ⟨#[]⟩] 49)).alloc (.cells #[.int .i64 k, .string ⟨#[]⟩, .string ⟨#[]⟩] 49)) (w.heap.size + 1) 49 #[.int .i64 0, .string ⟨#[]⟩, .string ⟨#[]⟩] := by
    have := At.new (w.alloc (.cells #[.int .i64 k, .string a, .string b] 80)) 49 #[.int .i64 0, .string ⟨#[]⟩, .string ⟨#[]⟩]
    rw [World.size_alloc] at this; exact this.alloc _
  have hA2 : At (((w.alloc (.cells #[.int .i64 k, .string a, .string b] 80)).alloc (.cells #[.int .i64 0, .string ⟨#[]⟩, .string ⟨#[]⟩] 49)).alloc (.cells #[.int .i64 k, .string ⟨#[]⟩, .string ⟨#[]⟩] 49)) (w.heap.size + 1 + 1) 49 #[.int .i64 k, .string ⟨#[]⟩, .string ⟨#[]⟩] := by
    have := At.new ((w.alloc (.cells #[.int .i64 k, .string a, .string b] 80)).alloc (.cells #[.int .i64 0, .string ⟨#[]⟩, .string ⟨#[]⟩] 49)) 49 #[.int .i64 k, .string ⟨#[]⟩, .string ⟨#[]⟩]
    rwa [World.size_alloc, World.size_alloc] at this
  go_enter Tryd.func47, Tryd.ntmps47
  go_wp2_with fail
  refine (toMove_c a b _).mono ?_
  rintro e w1 ⟨rfl, hb1⟩
  have k1 := hA1.keep hb1
  have k2 := hA2.keep hb1
  have hB : Below w.heap.size w w1 := Below.trans (by (repeat' (first | (with_reducible exact Below.refl _ _) | (with_reducible assumption) | (with_reducible refine Below.alloc ?_ ?_ _) | (with_reducible refine Below.drew ?_) | (with_reducible refine Below.setCell ?_ ?_ _) | (with_reducible exact Nat.le_refl _) | omega | ((repeat (first | rewrite [World.size_alloc] | rewrite [World.size_setCell] | rewrite [World.size_drew])); omega) | (simp; omega) | (simp; done)))) (hb1.mono (by simp; omega))
  have hl1 := k1.lt
  have hl2 := k2.lt
  clear hA1 hA2
  have q1 : w1.cell? ⟨w.heap.size + 1, 0, none⟩ = some (.int .i64 0) := k1.cell 0
  have q2 : w1.cell? ⟨w.heap.size + 1, 1, none⟩ = some (.string ⟨#[]⟩) := k1.cell 1
  have q3 : w1.cell? ⟨w.heap.size + 1, 2, none⟩ = some (.string ⟨#[]⟩) := k1.cell 2
  have q4 : w1.cell? ⟨w.heap.size + 1 + 1, 0, none⟩ = some (.int .i64 k) := k2.cell 0
  have q5 : w1.cell? ⟨w.heap.size + 1 + 1, 1, none⟩ = some (.string ⟨#[]⟩) := k2.cell 1
  have q6 : w1.cell? ⟨w.heap.size + 1 + 1, 2, none⟩ = some (.string ⟨#[]⟩) := k2.cell 2
  have z1 := k1.frozen 0
  have z2 := k1.frozen 1
  have z3 := k1.frozen 2
  have z4 := k2.frozen 0
  have z5 := k2.frozen 1
  have z6 := k2.frozen 2
  clear k1 k2
  go_wp2
  refine bodyPost_ret (v := .agg #[.int .i64 k, .string a, .string b]) (by simp [results, Tryd.results47, go_sem, q1, q2, q3]) rfl ⟨rfl, ?_⟩
  (repeat' (first | (with_reducible exact Below.refl _ _) | (with_reducible assumption) | (with_reducible refine Below.alloc ?_ ?_ _) | (with_reducible refine Below.drew ?_) | (with_reducible refine Below.setCell ?_ ?_ _) | (with_reducible exact Nat.le_refl _) | omega | ((repeat (first | rewrite [World.size_alloc] | rewrite [World.size_setCell] | rewrite [World.size_drew])); omega) | (simp; omega) | (simp; done)))
theorem infoSt : (Tryd.prog.info? 49).map (fun i => (i.zero, i.size, i.bytes)) = some (some (.agg #[.int .i64 0, .string ⟨#[]⟩, .string ⟨#[]⟩]), 3, 40) := by kernel_rfl

set_option maxHeartbeats 400000 in
theorem toStepS_c (xs : List St) (v : Value) (w : World) (hx : RdS w v xs) (hn' : xs.length ≤ 1048576) :
    Calls Tryd.prog 19 #[v] w fun e w' => ∃ v', e = .returned v' ∧ w'.ownsRow w.heap.size 49 3 v' xs.length (scells xs) ∧ Below w.heap.size w w' := by
  obtain ⟨A, cap, rfl, hn, hc, hcell⟩ := hx.open
  obtain ⟨i0, hi0, hz0, hz1, hz2⟩ := info_parts infoSt
  have hmk := fun W : World => run_make (P := Tryd.prog) W 23 49 i0 _ Tryd.underlying23 hi0 hz0 .i64 .i64 xs.length xs.length (by omega) (Int.le_refl _) (by rw [hz2]; omega) (by omega)
  simp only [Int.toNat_natCast, hz1] at hmk
  have hO := own_made w w.heap.size 49 #[Value.int .i64 0, Value.string ⟨#[]⟩, Value.string ⟨#[]⟩] 3 xs.length rfl (by omega) (by omega) (Nat.le_refl _)
  have hB : Below w.heap.size w (w.alloc (Obj.cells (madeCells #[Value.int .i64 0, Value.string ⟨#[]⟩, Value.string ⟨#[]⟩] (xs.length * 3)) 49)) := (Below.refl _ _).alloc (Nat.le_refl _) _
  go_enter Tryd.func19, Tryd.ntmps19
  go_wp2
  generalize (w.alloc (Obj.cells (madeCells #[Value.int .i64 0, Value.string ⟨#[]⟩, Value.string ⟨#[]⟩] (xs.length * 3)) 49)) = W1 at *
  go_loopw [4] (fun i wr => ∃ (k : Nat), k ≤ xs.length ∧ i = .int .i64 k ∧ wr.ownsRow w.heap.size 49 3 (.slice (some ⟨w.heap.size, 0, none⟩) xs.length xs.length) xs.length (shalf xs k) ∧ Below w.heap.size w wr) (fun i _ => xs.length - (intOf i).toNat)
  case atStart => exact ⟨0, by omega, rfl, by rw [shalf_zero]; exact hO, hB⟩
  case round =>
    obtain ⟨k, hk, rfl, ho, hb⟩ := hrel
    by_cases hlt : k < xs.length
    · obtain ⟨b, off, rfl, hbl, hc1, hc2, hc3⟩ := hcell k hlt
      have hd1 := (hb.cell (p := ⟨b, off + k * 3, none⟩) hbl).trans hc1
      have hd2 := (hb.cell (p := ⟨b, off + k * 3 + 1, none⟩) hbl).trans hc2
      have hd3 := (hb.cell (p := ⟨b, off + k * 3 + 2, none⟩) hbl).trans hc3
      clear hc1 hc2 hc3 hcell
      go_wp2_with fail
      refine (toStep_c _ _ _ _).mono ?_
      rintro e w' ⟨rfl, hb'⟩
      have ho' := own_keep ho hb'
      have hf1 := ho'.frozenAt (k * 3)
      have hf2 := ho'.frozenAt (k * 3 + 1)
      have hf3 := ho'.frozenAt (k * 3 + 2)
      have hg1 := (ho'.cellAt (k * 3) (by omega)).trans (shalf_at xs k hlt).1
      have hg2 := (ho'.cellAt (k * 3 + 1) (by omega)).trans (shalf_at xs k hlt).2.1
      have hg3 := (ho'.cellAt (k * 3 + 2) (by omega)).trans (shalf_at xs k hlt).2.2
      go_wp2
      go_roundw
      case rel =>
        refine ⟨k + 1, by omega, by go_num, ?_, ?_⟩
        · rw [← shalf_set xs k hlt]
          exact (((ho'.stored (k * 3) _).1.stored (k * 3 + 1) _).1.stored (k * 3 + 2) _).1
        · exact ((((hb.trans (hb'.mono hb.size)).setCell (Nat.le_refl _) _).setCell (Nat.le_refl _) _).setCell (Nat.le_refl _) _)
      case measure => simp [intOf]; omega
    · have hk' : k = xs.length := by omega
      have ho2 := ho
      rw [hk', shalf_full] at ho2
      go_wp2
      go_ret
      exact ⟨_, rfl, ho2, hb⟩
set_option maxHeartbeats 400000 in
theorem eqStep_c (k : Int) (a b : ByteArray) (k' : Int) (c d : ByteArray) (w : World) :
    Calls Tryd.prog 48 #[.agg #[.int .i64 k, .string a, .string b], .agg #[.int .i64 k', .string c, .string d]] w fun e w' => e = .returned (.bool (stEq k a b k' c d)) ∧ Below w.heap.size w w' := by
  have HS : Hid (stEq k a b k' c d = (decide (k = k') && mvEq a b c d)) := by show _ = _; simp [stEq, mvEq]
  by_cases hk : k = k'
  · have e1 : (k != k') = false := by simp [hk]
    have HK := Lib.hid hk
    clear hk
    rcases Bool.eq_false_or_eq_true (mvEq a b c d) with hm | hm
    all_goals
      go_enter Tryd.func48, Tryd.ntmps48
      go_wp2_with fail
      refine (eqMove_c a b c d _).mono ?_
      rintro e w1 ⟨rfl, hb1⟩
      rw [hm]
      have hB : Below w.heap.size w w1 := Below.trans (by (repeat' (first | (with_reducible exact Below.refl _ _) | (with_reducible assumption) | (with_reducible refine Below.alloc ?_ ?_ _) | (with_reducible refine Below.drew ?_) | (with_reducible refine Below.setCell ?_ ?_ _) | (with_reducible exact Nat.le_refl _) | omega | ((repeat (first | rewrite [World.size_alloc] | rewrite [World.size_setCell] | rewrite [World.size_drew])); omega) | (simp; omega) | (simp; done)))) (hb1.mono (by simp; omega))
      go_wp2
      go_ret
      exact ⟨by rw [HS.out, hm, decide_eq_true HK.out]; rfl, hB⟩
  · have e1 : (k != k') = true := by simp [hk]
    have HK := Lib.hid hk
    clear hk
    go_enter Tryd.func48, Tryd.ntmps48
    go_wp2
    go_ret
    exact ⟨by rw [HS.out, decide_eq_false HK.out]; rfl, by (repeat' (first | (with_reducible exact Below.refl _ _) | (with_reducible assumption) | (with_reducible refine Below.alloc ?_ ?_ _) | (with_reducible refine Below.drew ?_) | (with_reducible refine Below.setCell ?_ ?_ _) | (with_reducible exact Nat.le_refl _) | omega | ((repeat (first | rewrite [World.size_alloc] | rewrite [World.size_setCell] | rewrite [World.size_drew])); omega) | (simp; omega) | (simp; done)))⟩
end Go.Proofs.YtinggcjjdgibbabDoor
namespace Go.Proofs.YtinggcjjdgibbabDoor
open Go.RowKit Go.PM
attribute [local go_sem] Oper.semAt_some

theorem results_st (fn : Func) (hr : fn.results = #[.cell 2 49, .tmp 3]) (W : World) (b : Nat) (k : Int) (a c : ByteArray) (x : Bool) (hA : At W b 49 #[.int .i64 k, .string a, .string c]) (tmps : Array Value) (h2 : tmps.getD 2 undef = .pointer (some ⟨b, 0, none⟩)) (h3 : tmps.getD 3 undef = .bool x) :
    (results fn tmps).run Tryd.prog W = .ok (.tuple #[.agg #[.int .i64 k, .string a, .string c], .bool x]) W := by
  have q0 := hA.cell 0
  have q1 := hA.cell 1
  have q2 := hA.cell 2
  simp at q0 q1 q2
  simp only [Array.getD_eq_getD_getElem?] at h2 h3
  simp [results, hr, go_sem, h2, h3, q0, q1, q2]

def psV (x : ByteArray) : Value := .tuple #[.agg #[.int .i64 (if psG x then pS x else (0, ⟨#[]⟩, ⟨#[]⟩)).1, .string (if psG x then pS x else (0, ⟨#[]⟩, ⟨#[]⟩)).2.1, .string (if psG x then pS x else (0, ⟨#[]⟩, ⟨#[]⟩)).2.2], .bool (psG x)]
theorem psV_yes {x : ByteArray} {s : St} (h : psG x = true) (hs : pS x = s) : psV x = .tuple #[.agg #[.int .i64 s.1, .string s.2.1, .string s.2.2], .bool true] := by
  unfold psV; rw [h, ← hs]; rfl
theorem psV_no {x : ByteArray} (h : psG x = false) : psV x = .tuple #[.agg #[.int .i64 0, .string ⟨#[]⟩, .string ⟨#[]⟩], .bool false] := by
  unfold psV; rw [h]; rfl

set_option maxRecDepth 100000 in
set_option maxHeartbeats 1600000 in
theorem parseStep_c (x : ByteArray) (w : World) (hx : x.size ≤ 1048576) (hg : Sg w) :
    Calls Tryd.prog 28 #[.string x] w fun e w' => e = .returned (psV x) ∧ Below w.heap.size w w' := by
  have HA := Lib.hid (fun W => strCut_c x 61 W hx)
  have HB := Lib.hid (fun W => strCut_c x 126 W hx)
  have HY0 := Lib.hid (fun h => psV_yes (step_eq (x := x) h).1 (step_eq (x := x) h).2)
  have HY1 := Lib.hid (fun h => psV_yes (step_sw (x := x) h).1 (step_sw (x := x) h).2)
  have HNO := Lib.hid (fun h1 h2 => psV_no (step_no (x := x) h1 h2))
  generalize psV x = r at *
  generalize cutB x 61 = A at *
  generalize cutB x 126 = B at *
  obtain ⟨a0, b0, m0⟩ := A
  obtain ⟨a1, b1, m1⟩ := B
  simp only at HA HB HY0 HY1 HNO
  have hb0 : Below w.heap.size w (w.alloc (.cells #[.int .i64 0, .string ⟨#[]⟩, .string ⟨#[]⟩] 49)) := (Below.refl _ _).alloc (Nat.le_refl _) _
  have hN0 := At.new w 49 #[.int .i64 0, .string ⟨#[]⟩, .string ⟨#[]⟩]
  have hg1 := hg.below hb0
  have c0 := hg1.c0
  have c1 := hg1.c1
  have x0 : ∀ W : World, (Instr.index 88 (.agg #[.string ⟨#[61]⟩, .string ⟨#[126]⟩]) (.int .i64 0)).run Tryd.prog W = .ok (.string ⟨#[61]⟩) W := fun _ => by kernel_rfl
  have x1 : ∀ W : World, (Instr.index 88 (.agg #[.string ⟨#[61]⟩, .string ⟨#[126]⟩]) (.int .i64 1)).run Tryd.prog W = .ok (.string ⟨#[126]⟩) W := fun _ => by kernel_rfl
  go_enter Tryd.func28, Tryd.ntmps28
  go_wp2
  go_loopw [11] (fun i wr => ∃ (k : Nat), k ≤ 2 ∧ i = .int .i64 k ∧ Hid (1 ≤ k → stOk (0, a0, b0) = false) ∧ Hid (2 ≤ k → stOk (1, a1, b1) = false) ∧ At wr w.heap.size 49 #[.int .i64 0, .string ⟨#[]⟩, .string ⟨#[]⟩] ∧ Below w.heap.size w wr) (fun i _ => 2 - (intOf i).toNat)
  case atStart => exact ⟨0, by omega, rfl, fun h => absurd h (by decide), fun h => absurd h (by decide), hN0, hb0⟩
  case round =>
    obtain ⟨k, hk, rfl, h1, h2, hN, hb⟩ := hrel
    have hbs := hb.size
    have hNl := hN.lt
    rcases (show k = 0 ∨ k = 1 ∨ k = 2 by omega) with rfl | rfl | rfl
    · rcases Bool.eq_false_or_eq_true (stOk (0, a0, b0)) with h00 | h00
      · have HS := Lib.hid h00
        go_wp2_with fail
        refine (HA.out _).mono ?_
        rintro e V2 ⟨rfl, hb2⟩
        have hs2 := hb2.size
        have B2 := hb.trans (hb2.mono hbs)
        have N2 := hN.keep hb2
        go_wp2_with fail
        refine (stepValid_c 0 a0 b0 _).mono ?_
        rintro e V3 ⟨rfl, hb3⟩
        rw [HS.out]
        have hal : Below w.heap.size w (V2.alloc (.cells #[.int .i64 0, .string a0, .string b0] 49)) := B2.alloc (B2.size) _
        have B3 : Below w.heap.size w V3 := hal.trans (hb3.mono hal.size)
        have N3 := (N2.alloc (.cells #[.int .i64 0, .string a0, .string b0] 49)).keep hb3
        have nd := ((At.new V2 49 #[.int .i64 0, .string a0, .string b0]).keep hb3)
        have d0 := nd.cell 0
        have d1 := nd.cell 1
        have d2 := nd.cell 2
        have HV := Lib.hid (HY0.out HS.out)
        have q0 : V3.cell? ⟨w.heap.size, 0, none⟩ = some (.int .i64 0) := N3.cell 0
        have q1 : V3.cell? ⟨w.heap.size, 1, none⟩ = some (.string ⟨#[]⟩) := N3.cell 1
        have q2 : V3.cell? ⟨w.heap.size, 2, none⟩ = some (.string ⟨#[]⟩) := N3.cell 2
        have z0 := N3.frozen 0
        have z1 := N3.frozen 1
        have z2 := N3.frozen 2
        have hl := N3.lt
        have hs3 := B3.size
        go_wp2
        refine bodyPost_ret (v := .tuple #[.agg #[.int .i64 0, .string a0, .string b0], .bool true]) (results_st _ Tryd.results28 _ w.heap.size _ _ _ _ ?_ _ rfl rfl) rfl ⟨by rw [HV.out], by (repeat' (first | (with_reducible exact Below.refl _ _) | (with_reducible assumption) | (with_reducible refine Below.alloc ?_ ?_ _) | (with_reducible refine Below.drew ?_) | (with_reducible refine Below.setCell ?_ ?_ _) | (with_reducible exact Nat.le_refl _) | omega | ((repeat (first | rewrite [World.size_alloc] | rewrite [World.size_setCell] | rewrite [World.size_drew])); omega) | (simp; omega) | (simp; done)))⟩
        have := ((N3.set 0 (.int .i64 0)).set 1 (.string a0)).set 2 (.string b0)
        simpa using this
      · have HS := Lib.hid h00
        go_wp2_with fail
        refine (HA.out _).mono ?_
        rintro e V2 ⟨rfl, hb2⟩
        have hs2 := hb2.size
        have B2 := hb.trans (hb2.mono hbs)
        have N2 := hN.keep hb2
        go_wp2_with fail
        refine (stepValid_c 0 a0 b0 _).mono ?_
        rintro e V3 ⟨rfl, hb3⟩
        rw [HS.out]
        have hal : Below w.heap.size w (V2.alloc (.cells #[.int .i64 0, .string a0, .string b0] 49)) := B2.alloc (B2.size) _
        have B3 : Below w.heap.size w V3 := hal.trans (hb3.mono hal.size)
        have N3 := (N2.alloc (.cells #[.int .i64 0, .string a0, .string b0] 49)).keep hb3
        have nd := ((At.new V2 49 #[.int .i64 0, .string a0, .string b0]).keep hb3)
        have d0 := nd.cell 0
        have d1 := nd.cell 1
        have d2 := nd.cell 2
        go_wp2
        go_roundw
        case rel => exact ⟨0+1, by omega, by go_num, fun _ => HS.out, fun h => absurd h (by decide), N3, B3⟩
        case measure => simp [intOf] <;> omega
    · rcases Bool.eq_false_or_eq_true (stOk (1, a1, b1)) with h01 | h01
      · have HS := Lib.hid h01
        go_wp2_with fail
        refine (HB.out _).mono ?_
        rintro e V2 ⟨rfl, hb2⟩
        have hs2 := hb2.size
        have B2 := hb.trans (hb2.mono hbs)
        have N2 := hN.keep hb2
        go_wp2_with fail
        refine (stepValid_c 1 a1 b1 _).mono ?_
        rintro e V3 ⟨rfl, hb3⟩
        rw [HS.out]
        have hal : Below w.heap.size w (V2.alloc (.cells #[.int .i64 1, .string a1, .string b1] 49)) := B2.alloc (B2.size) _
        have B3 : Below w.heap.size w V3 := hal.trans (hb3.mono hal.size)
        have N3 := (N2.alloc (.cells #[.int .i64 1, .string a1, .string b1] 49)).keep hb3
        have nd := ((At.new V2 49 #[.int .i64 1, .string a1, .string b1]).keep hb3)
        have d0 := nd.cell 0
        have d1 := nd.cell 1
        have d2 := nd.cell 2
        have HV := Lib.hid (HY1.out HS.out)
        have q0 : V3.cell? ⟨w.heap.size, 0, none⟩ = some (.int .i64 0) := N3.cell 0
        have q1 : V3.cell? ⟨w.heap.size, 1, none⟩ = some (.string ⟨#[]⟩) := N3.cell 1
        have q2 : V3.cell? ⟨w.heap.size, 2, none⟩ = some (.string ⟨#[]⟩) := N3.cell 2
        have z0 := N3.frozen 0
        have z1 := N3.frozen 1
        have z2 := N3.frozen 2
        have hl := N3.lt
        have hs3 := B3.size
        go_wp2
        refine bodyPost_ret (v := .tuple #[.agg #[.int .i64 1, .string a1, .string b1], .bool true]) (results_st _ Tryd.results28 _ w.heap.size _ _ _ _ ?_ _ rfl rfl) rfl ⟨by rw [HV.out], by (repeat' (first | (with_reducible exact Below.refl _ _) | (with_reducible assumption) | (with_reducible refine Below.alloc ?_ ?_ _) | (with_reducible refine Below.drew ?_) | (with_reducible refine Below.setCell ?_ ?_ _) | (with_reducible exact Nat.le_refl _) | omega | ((repeat (first | rewrite [World.size_alloc] | rewrite [World.size_setCell] | rewrite [World.size_drew])); omega) | (simp; omega) | (simp; done)))⟩
        have := ((N3.set 0 (.int .i64 1)).set 1 (.string a1)).set 2 (.string b1)
        simpa using this
      · have HS := Lib.hid h01
        go_wp2_with fail
        refine (HB.out _).mono ?_
        rintro e V2 ⟨rfl, hb2⟩
        have hs2 := hb2.size
        have B2 := hb.trans (hb2.mono hbs)
        have N2 := hN.keep hb2
        go_wp2_with fail
        refine (stepValid_c 1 a1 b1 _).mono ?_
        rintro e V3 ⟨rfl, hb3⟩
        rw [HS.out]
        have hal : Below w.heap.size w (V2.alloc (.cells #[.int .i64 1, .string a1, .string b1] 49)) := B2.alloc (B2.size) _
        have B3 : Below w.heap.size w V3 := hal.trans (hb3.mono hal.size)
        have N3 := (N2.alloc (.cells #[.int .i64 1, .string a1, .string b1] 49)).keep hb3
        have nd := ((At.new V2 49 #[.int .i64 1, .string a1, .string b1]).keep hb3)
        have d0 := nd.cell 0
        have d1 := nd.cell 1
        have d2 := nd.cell 2
        go_wp2
        go_roundw
        case rel => exact ⟨1+1, by omega, by go_num, fun _ => h1.out (by decide), fun _ => HS.out, N3, B3⟩
        case measure => simp [intOf] <;> omega
    · have HV := Lib.hid (HNO.out (h1.out (by decide)) (h2.out (by decide)))
      have q0 : wr.cell? ⟨w.heap.size, 0, none⟩ = some (.int .i64 0) := hN.cell 0
      have q1 : wr.cell? ⟨w.heap.size, 1, none⟩ = some (.string ⟨#[]⟩) := hN.cell 1
      have q2 : wr.cell? ⟨w.heap.size, 2, none⟩ = some (.string ⟨#[]⟩) := hN.cell 2
      have z0 := hN.frozen 0
      have z1 := hN.frozen 1
      have z2 := hN.frozen 2
      go_wp2
      refine bodyPost_ret (v := .tuple #[.agg #[.int .i64 0, .string ⟨#[]⟩, .string ⟨#[]⟩], .bool false]) (results_st _ Tryd.results28 _ w.heap.size _ _ _ _ ?_ _ rfl rfl) rfl ⟨by rw [HV.out], by (repeat' (first | (with_reducible exact Below.refl _ _) | (with_reducible assumption) | (with_reducible refine Below.alloc ?_ ?_ _) | (with_reducible refine Below.drew ?_) | (with_reducible refine Below.setCell ?_ ?_ _) | (with_reducible exact Nat.le_refl _) | omega | ((repeat (first | rewrite [World.size_alloc] | rewrite [World.size_setCell] | rewrite [World.size_drew])); omega) | (simp; omega) | (simp; done)))⟩
      have := ((hN.set 0 (.int .i64 0)).set 1 (.string ⟨#[]⟩)).set 2 (.string ⟨#[]⟩)
      simpa using this

theorem seq_mem {t x : ByteArray} {pre : List ByteArray} (h : pre ++ [x] <+: pcsB 59 t) : x.size ≤ t.size := by
  have : x ∈ pcsB 59 t := h.mem (List.mem_append_right _ (List.mem_singleton_self x))
  rw [← cutP_pcs] at this
  exact cutP_size this
theorem results_sq (W : World) (b1 b2 : Nat) (v b : Value) (h1 : At W b1 23 #[v]) (h2 : At W b2 4 #[b]) (tmps : Array Value) (e1 : tmps.getD 2 undef = .pointer (some ⟨b1, 0, none⟩)) (e2 : tmps.getD 3 undef = .pointer (some ⟨b2, 0, none⟩)) :
    (results Tryd.f8 tmps).run Tryd.prog W = .ok (.tuple #[v, b]) W := by
  have q1 : W.cell? ⟨b1, 0, none⟩ = some v := h1.cell 0
  have q2 : W.cell? ⟨b2, 0, none⟩ = some b := h2.cell 0
  have e1' : tmps[2]?.getD undef = .pointer (some ⟨b1, 0, none⟩) := by simpa using e1
  have e2' : tmps[3]?.getD undef = .pointer (some ⟨b2, 0, none⟩) := by simpa using e2
  simp [results, Tryd.results8, go_sem, e1', e2', q1, q2]
theorem st_new (w : World) (k : Int) (a b : ByteArray) : ∀ j u, [Value.int .i64 k, Value.string a, Value.string b][j]? = some u → (w.alloc (.cells #[.int .i64 k, .string a, .string b] 49)).cell? ((⟨w.heap.size, 0, none⟩ : Addr).add j) = some u := by
  intro j u hj
  match j, hj with
  | 0, hj => simp at hj; subst hj; simp [Addr.add]
  | 1, hj => simp at hj; subst hj; simp [Addr.add]
  | 2, hj => simp at hj; subst hj; simp [Addr.add]
theorem listIn_st {F : Fence} {k : Nat} {ops : Array Oper} {rest : List Oper} {o : Oper} {a : Act} {Q : Exit → Act → World → Prop} {w : World} (hgd : o.guard = none) (s x : Operand)
    (ho : o.op = .call { callee := .builtin .append, args := #[s, x], argTypes := #[23, 23] })
    (base : Nat) (v : Value) (ys : List St) (m : St) (ad : Addr) (c : Nat) (hs : a.eval s = v) (hx : a.eval x = .slice (some ad) 1 c)
    (hown : w.ownsRow base 49 3 v ys.length (scells ys)) (hnew : ∀ j u, [Value.int .i64 m.1, Value.string m.2.1, Value.string m.2.2][j]? = some u → w.cell? (ad.add j) = some u)
    (hlen : ys.length ≤ 1048576) (hbase : base ≤ w.heap.size)
    (h : ∀ v' w', w'.ownsRow base 49 3 v' (ys ++ [m]).length (scells (ys ++ [m])) → w.grownBy w' v.ownBlock → wpListIn F k Tryd.prog ops Q rest (a.put o.dst v') w') : wpListIn F k Tryd.prog ops Q (o :: rest) a w := by
  obtain ⟨i0, hi0, hz0, hz1, hz2⟩ := info_parts infoSt
  refine wpListIn_append_own w hgd s x _ ho base 49 i0 _ 3 40 Tryd.underlying23 hi0 hz0 hz1 hz2 rfl (by omega) v ys.length (scells ys) hs hown ad 1 c [Value.int .i64 m.1, Value.string m.2.1, Value.string m.2.2] hx rfl hnew
    (by intro u hu; simp at hu; rcases hu with rfl | rfl | rfl <;> rfl) (by simp only [maxLen]; omega) (by omega) hbase ?_
  intro v' w' h2 h3 _
  refine h v' w' ?_ h3
  have hcs : scells ys ++ [Value.int .i64 m.1, Value.string m.2.1, Value.string m.2.2] = scells (ys ++ [m]) := by rw [scells_append]; simp [scells]
  rw [← hcs, List.length_append]
  simpa using h2

set_option maxRecDepth 100000 in
set_option maxHeartbeats 3200000 in
theorem imParseSequence_c (t : ByteArray) (w : World) (ht : t.size ≤ 1048576) (hg : Sg w) :
    Calls Tryd.prog 8 #[.string t] w fun e w' => ∃ v', e = .returned (.tuple #[v', .bool (sqOk t)]) ∧ w'.ownsRow w.heap.size 49 3 v' (sqS t).length (scells (sqS t)) ∧ Below w.heap.size w w' := by
  have hd45 : (t.toList == [45]) = decide (t = ⟨#[45]⟩) := by
    have e : (ByteArray.mk #[45]).toList = [45] := by rw [ByteArray.toList_eq]
    have h := beq_str t ⟨#[45]⟩
    rw [e] at h; exact h
  by_cases h0 : t = ⟨#[45]⟩
  · have HK : Hid (sqOk t = true) := by show _ = _; rw [sqOk, decide_eq_true h0]; rfl
    have HM : Hid (sqS t = []) := if_pos h0
    rw [decide_eq_true h0] at hd45
    clear h0
    go_enter Tryd.func8, Tryd.ntmps8
    go_wp2
    refine bodyPost_ret (results_sq _ w.heap.size (w.heap.size + 1) (.slice none 0 0) (.bool true) ((At.new _ _ _).alloc _) ?_ _ rfl rfl) rfl ⟨_, by rw [HK.out], by rw [HM.out]; exact ⟨rfl, .inl ⟨rfl, rfl⟩⟩, by (repeat' (first | (with_reducible exact Below.refl _ _) | (with_reducible assumption) | (with_reducible refine Below.alloc ?_ ?_ _) | (with_reducible refine Below.drew ?_) | (with_reducible refine Below.setCell ?_ ?_ _) | (with_reducible exact Nat.le_refl _) | omega | ((repeat (first | rewrite [World.size_alloc] | rewrite [World.size_setCell] | rewrite [World.size_drew])); omega) | (simp; omega) | (simp; done)))⟩
    have := At.new (w.alloc (.cells #[.slice none 0 0] 23)) 4 #[.bool true]
    rwa [World.size_alloc] at this
  · have HPC := Lib.hid (sq_cut h0)
    rw [decide_eq_false h0] at hd45
    clear h0
    refine (callsIn_wide (n := 5)).1 ?_
    refine callsIn_of_wp_marks Tryd.func8 rfl trivial ?_ rfl
    simp only [Tryd.ntmps8, List.size_toArray, List.length_cons, List.length_nil, Nat.reduceAdd, Nat.reduceSub, Array.replicate_succ, Array.replicate_zero, List.push_toArray, List.append_toArray, List.nil_append, List.cons_append]
    gi_wp2_with fail
    obtain ⟨W4, hW4⟩ : ∃ W4 : World, W4 = ((w.alloc (.cells #[.slice none 0 0] 23)).alloc (.cells #[.bool false] 4)).alloc (.cells #[.slice none 0 0] 23) := ⟨_, rfl⟩
    have hS4 : W4.heap.size = w.heap.size + 1 + 1 + 1 := by rw [hW4]; simp only [World.size_alloc]
    have hB4 : Below w.heap.size w W4 := by rw [hW4]; (repeat' (first | (with_reducible exact Below.refl _ _) | (with_reducible assumption) | (with_reducible refine Below.alloc ?_ ?_ _) | (with_reducible refine Below.drew ?_) | (with_reducible refine Below.setCell ?_ ?_ _) | (with_reducible exact Nat.le_refl _) | omega | ((repeat (first | rewrite [World.size_alloc] | rewrite [World.size_setCell] | rewrite [World.size_drew])); omega) | (simp; omega) | (simp; done)))
    have x0 : At W4 w.heap.size 23 #[.slice none 0 0] := by rw [hW4]; exact ((At.new _ _ _).alloc _).alloc _
    have x1 : At W4 (w.heap.size + 1) 4 #[.bool false] := by
      rw [hW4]
      have := At.new (w.alloc (.cells #[.slice none 0 0] 23)) 4 #[.bool false]
      rw [World.size_alloc] at this
      exact this.alloc _
    have x2 : At W4 (w.heap.size + 1 + 1) 23 #[.slice none 0 0] := by
      rw [hW4]
      have := At.new ((w.alloc (.cells #[.slice none 0 0] 23)).alloc (.cells #[.bool false] 4)) 23 #[.slice none 0 0]
      simp only [World.size_alloc] at this
      exact this
    rw [← hW4]
    refine ⟨trivial, callsIn_wide.2 ((partsOf_c _ _ _).mono ?_)⟩
    rintro e W5 ⟨rfl, x4, x5, hb5⟩
    rw [hS4] at x4 x5 ⊢
    replace x0 := x0.keep hb5
    replace x1 := x1.keep hb5
    replace x2 := x2.keep hb5
    have hB5 := hB4.trans (hb5.mono hB4.size)
    have hlt := x5.lt
    clear hb5 hB4 hW4 hS4
    gi_wp2
    refine range_law3 (F := Fence.wide) (Pr := fun A => At A (w.heap.size + 1 + 1 + 1) 9 #[.string t] ∧ At A (w.heap.size + 1 + 1 + 1 + 1) 9 #[.string ⟨#[59]⟩]) (gf := 54) (lf := #[]) (lb := #[.pointer (some ⟨w.heap.size + 1 + 1 + 1, 0, none⟩), .pointer (some ⟨w.heap.size + 1 + 1 + 1 + 1, 0, none⟩)]) rfl (by decide) rfl trivial (fun args w => rfl) (encs := fun s : ByteArray => #[.string s]) (xs := pcsB 59 t) (κ := 0)
      (parts_iter t 59 _ _ _ ht (by decide)) (fun _ => rfl)
      (fun pre A => ∃ o, At A w.heap.size 23 #[.slice none 0 0] ∧ At A (w.heap.size + 1) 4 #[.bool false] ∧ At A (w.heap.size + 1 + 1) 23 #[o] ∧ At A (w.heap.size + 1 + 1 + 1) 9 #[.string t] ∧ At A (w.heap.size + 1 + 1 + 1 + 1) 9 #[.string ⟨#[59]⟩] ∧ Hid (goodP pre = true) ∧ A.ownsRow (W5.heap.size + 2) 49 3 o (pre.map pS).length (scells (pre.map pS)) ∧ Below w.heap.size w A)
      (fun c pre A => c = .ret ∧ ¬ goodP pre = true ∧ At A w.heap.size 23 #[.slice none 0 0] ∧ At A (w.heap.size + 1) 4 #[.bool false] ∧ Below w.heap.size w A)
      ?_ ?_ ?_ ?_
      (fun s a' _ => a' = { tmps := #[.string t, undef, .pointer (some ⟨w.heap.size, 0, none⟩), .pointer (some ⟨w.heap.size + 1, 0, none⟩), .pointer (some ⟨w.heap.size + 1 + 1, 0, none⟩), .string s, undef, undef, .string t, .bool false, .string t, .func (.func 54) #[] #[.pointer (some ⟨w.heap.size + 1 + 1 + 1, 0, none⟩), .pointer (some ⟨w.heap.size + 1 + 1 + 1 + 1, 0, none⟩)], .string s, undef, undef, undef, undef, undef, undef, undef, undef, undef, undef, undef, undef, undef, undef, undef, undef, undef], defers := [] }) ?_ ?_ ?_ ?_ ?_
    · rintro pre A ⟨o, _, _, _, k4, k5, _⟩
      exact ⟨k4, k5⟩
    · rintro s A A' row ⟨o, k0, k1, k2, k4, k5, k6, k7, k8⟩ hg hr
      exact ⟨o, at_turn k0 hg (fun r e => (hr r e).2), at_turn k1 hg (fun r e => (hr r e).2), at_turn k2 hg (fun r e => (hr r e).2), at_turn k4 hg (fun r e => (hr r e).2), at_turn k5 hg (fun r e => (hr r e).2), k6, row_turn k7 hg (fun r e => (hr r e).2), k8.trans (below_grown hg k8.size (fun g e => by have := (hr g e).1; omega))⟩
    · rintro c s A A' row ⟨h1, h2, k0, k1, k8⟩ hg hr
      exact ⟨h1, h2, at_turn k0 hg (fun r e => (hr r e).2), at_turn k1 hg (fun r e => (hr r e).2), k8.trans (below_grown hg k8.size (fun g e => by have := (hr g e).1; omega))⟩
    · exact ⟨_, x0, x1, x2, x4, x5, goodP_nil, ⟨rfl, .inl ⟨rfl, rfl⟩⟩, hB5⟩
    · rintro m a' s A A' row h hg hr
      exact h
    · intro l pre x W K hI hp hsz hK
      gi_wp2
      exact hK _ _ (KeepsNew.refl _ _) hI rfl
    · clear x0 x1 x2 x4 x5
      rintro l pre x a' W ⟨o, k0, k1, k2, k4, k5, k6, k7, k8⟩ rfl hp hsz
      have hxz : x.size ≤ 1048576 := Nat.le_trans (seq_mem hp) ht
      have hWs : w.heap.size + 5 ≤ W.heap.size := by omega
      have HSN := Lib.hid (goodP_snoc pre x)
      have HMP : Hid ((pre ++ [x]).map pS = pre.map pS ++ [pS x]) := by show _ = _; simp
      have hPL := goodP_len k6.out
      have hML : (pre.map pS).length = pre.length := by simp
      generalize pre.map pS = ys at *
      obtain ⟨A, cap, rfl, _⟩ := Rd.of_own k7
      rcases Bool.eq_false_or_eq_true (psG x) with hgx | hgx
      · have HPV := Lib.hid (psV_yes hgx (rfl : pS x = pS x))
        have HG := Lib.hid hgx
        generalize pS x = m at *
        obtain ⟨k, a, b⟩ := m
        clear hgx
        simp only at HPV
        by_cases h60 : ys.length = 60
        · have HNO : Hid (¬ goodP (pre ++ [x]) = true) := fun h => by have := (HSN.out.1 h).2.2; omega
          rw [h60] at k2 k7
          have e60 : ((60 : Nat) : Int) = 60 := rfl
          gi_wp2_with fail
          refine ⟨trivial, CallsIn.inRound l (callsIn_wide.2 ((parseStep_c x W hxz (hg.below k8)).mono ?_))⟩
          rintro e V2 ⟨rfl, hb2⟩
          rw [HPV.out]
          have hs2 := hb2.size
          have KF2 : KeepsFrom W5.heap.size W V2 := (KeepsNew.below hb2).from
          have hSz : (V2.alloc (.cells #[.int .i64 k, .string a, .string b] 49)).heap.size = V2.heap.size + 1 := by simp
          have B3 : Below V2.heap.size V2 (V2.alloc (.cells #[.int .i64 k, .string a, .string b] 49)) := (Below.refl _ _).alloc (Nat.le_refl _) _
          have KF4 := KF2.trans (KeepsNew.below B3).from
          replace k0 := (k0.keep hb2).keep B3
          replace k1 := (k1.keep hb2).keep B3
          replace k2 := (k2.keep hb2).keep B3
          replace k4 := (k4.keep hb2).keep B3
          replace k5 := (k5.keep hb2).keep B3
          replace k7 := own_keep (own_keep k7 hb2) B3
          replace k8 := (k8.trans (hb2.mono k8.size)).trans (B3.mono (by have := k8.size; omega))
          have mM := At.new V2 49 #[.int .i64 k, .string a, .string b]
          clear B3
          have c0 := k0.cell 0
          have f0 := k0.frozen 0
          have c1 := k1.cell 0
          have f1 := k1.frozen 0
          have c2 := k2.cell 0
          have g0 := grownBy_setCell' (V2.alloc (.cells #[.int .i64 k, .string a, .string b] 49)) w.heap.size (.slice none 0 0)
          have n0 : At ((V2.alloc (.cells #[.int .i64 k, .string a, .string b] 49)).setCell ⟨w.heap.size, 0, none⟩ (.slice none 0 0)) w.heap.size 23 #[.slice none 0 0] := k0.set 0 _
          have n1 := k1.grown g0 (by simp)
          have d1 := n1.cell 0
          have e1 := n1.frozen 0
          have g1 := grownBy_setCell' ((V2.alloc (.cells #[.int .i64 k, .string a, .string b] 49)).setCell ⟨w.heap.size, 0, none⟩ (.slice none 0 0)) (w.heap.size + 1) (.bool false)
          have p0 := n0.grown g1 (by simp)
          have p1 : At (((V2.alloc (.cells #[.int .i64 k, .string a, .string b] 49)).setCell ⟨w.heap.size, 0, none⟩ (.slice none 0 0)).setCell ⟨w.heap.size + 1, 0, none⟩ (.bool false)) (w.heap.size + 1) 4 #[.bool false] := n1.set 0 _
          have p8 := (k8.trans (below_grown g0 k8.size (fun g e => by cases e; omega))).trans (below_grown g1 (by have := k8.size; have := g0.size; omega) (fun g e => by cases e; omega))
          have pk := KF4.trans ((kf_grown (B := W5.heap.size) g0 (fun g o e hge _ => by cases e; omega)).trans (kf_grown (B := W5.heap.size) g1 (fun g o e hge _ => by cases e; omega)))
          clear k0 k1 k2 k4 k5 k7 k8 KF4 KF2 n0 n1 g0 g1 hb2 hSz
          gi_wp2
          exact ⟨pk, rfl, HNO.out, p0, p1, p8⟩
        · have HGN : Hid (goodP (pre ++ [x]) = true) := HSN.out.2 ⟨k6.out, HG.out, by omega⟩
          have q60 : ¬ ((ys.length : Int) = 60) := by omega
          have hyl : ys.length ≤ 60 := by omega
          clear hML hPL
          gi_wp2_with fail
          refine ⟨trivial, CallsIn.inRound l (callsIn_wide.2 ((parseStep_c x W hxz (hg.below k8)).mono ?_))⟩
          rintro e V2 ⟨rfl, hb2⟩
          rw [HPV.out]
          have hs2 := hb2.size
          have KF2 : KeepsFrom W5.heap.size W V2 := (KeepsNew.below hb2).from
          have hSz : (V2.alloc (.cells #[.int .i64 k, .string a, .string b] 49)).heap.size = V2.heap.size + 1 := by simp
          have B3 : Below V2.heap.size V2 (V2.alloc (.cells #[.int .i64 k, .string a, .string b] 49)) := (Below.refl _ _).alloc (Nat.le_refl _) _
          have KF4 := KF2.trans (KeepsNew.below B3).from
          replace k0 := (k0.keep hb2).keep B3
          replace k1 := (k1.keep hb2).keep B3
          replace k2 := (k2.keep hb2).keep B3
          replace k4 := (k4.keep hb2).keep B3
          replace k5 := (k5.keep hb2).keep B3
          replace k7 := own_keep (own_keep k7 hb2) B3
          replace k8 := (k8.trans (hb2.mono k8.size)).trans (B3.mono (by have := k8.size; omega))
          have mM := At.new V2 49 #[.int .i64 k, .string a, .string b]
          clear B3
          have c2 := k2.cell 0
          have cM0 := mM.cell 0
          have cM1 := mM.cell 1
          have cM2 := mM.cell 2
          have hs8 := k8.size
          have hnw := st_new (V2.alloc (.cells #[.int .i64 k, .string a, .string b] 49)) k a b
          clear hSz
          gi_wp2_with (gi_at_builtin; refine held ?_)
          unfold Held
          obtain ⟨V7, hV7⟩ : ∃ V7 : World, V7 = V2.alloc (.cells #[.int .i64 k, .string a, .string b] 49) := ⟨_, rfl⟩
          rw [← hV7] at k0 k1 k2 k4 k5 k7 k8 KF4 hnw hs8 ⊢
          have hz7 : V7.heap.size = V2.heap.size + 1 := by rw [hV7]; simp
          rw [hz7] at hnw
          clear hV7 c2 cM0 cM1 cM2 mM KF2
          refine listIn_st rfl (.tmp 25) (.tmp 27) rfl (W5.heap.size + 2) (.slice A ys.length cap) ys (k, a, b) ⟨V2.heap.size + 1, 0, none⟩ 1 (by rfl) (by rfl) (own_keep k7 ((Below.refl _ _).alloc (Nat.le_refl _) _)) hnw (by omega) (by simp; omega) ?_
          intro o' V9 hown9 hgrow9
          have Ba := (Below.refl V7.heap.size V7).alloc (Nat.le_refl _) (.cells #[.int .i64 k, .string a, .string b] 49)
          replace k0 := k0.keep Ba
          replace k1 := k1.keep Ba
          replace k2 := k2.keep Ba
          replace k4 := k4.keep Ba
          replace k5 := k5.keep Ba
          replace k7 := own_keep k7 Ba
          replace KF4 := KF4.trans ((KeepsNew.below Ba).from.trans (kf_grown hgrow9 (fun g o e _ h => own_cells k7 g o e h)))
          replace k8 := (k8.trans (Ba.mono k8.size)).trans (below_grown hgrow9 (by have := k8.size; simp; omega) (fun g hg => by have := own_block_ge k7 g hg; omega))
          have m0 := k0.grown hgrow9 (box_apart k7 k0 (by decide))
          have m1 := k1.grown hgrow9 (box_apart k7 k1 (by decide))
          have m2 := k2.grown hgrow9 (box_apart k7 k2 (by decide))
          have m4 := k4.grown hgrow9 (box_apart k7 k4 (by decide))
          have m5 := k5.grown hgrow9 (box_apart k7 k5 (by decide))
          have hs9 := hgrow9.size
          have hsa : (V7.alloc (.cells #[.int .i64 k, .string a, .string b] 49)).heap.size = V7.heap.size + 1 := by simp
          rw [hsa] at hs9
          have hne9 := box_apart hown9 m2 (by decide)
          have d1 := m2.cell 0
          have d2 := m2.frozen 0
          obtain ⟨A9, cap9, rfl, _⟩ := Rd.of_own hown9
          generalize ys ++ [(k, a, b)] = zs at *
          have gS := grownBy_setCell' V9 (w.heap.size + 1 + 1) (.slice A9 zs.length cap9)
          have n2 : At (V9.setCell ⟨w.heap.size + 1 + 1, 0, none⟩ (.slice A9 zs.length cap9)) (w.heap.size + 1 + 1) 23 #[.slice A9 zs.length cap9] := m2.set 0 _
          have n0 := m0.grown gS (by simp <;> omega)
          have n1 := m1.grown gS (by simp <;> omega)
          have n4 := m4.grown gS (by simp <;> omega)
          have n5 := m5.grown gS (by simp <;> omega)
          have n7 := own_grown hown9 gS (.inl hne9.symm)
          have KF9 := KF4.trans (kf_grown (B := W5.heap.size) gS (fun g o e hge _ => by cases e; omega))
          have k9 := k8.trans (below_grown gS (by have := k8.size; omega) (fun g e => by cases e; omega))
          clear k0 k1 k2 k4 k5 k7 KF4 m0 m1 m2 m4 m5 hnw hgrow9 Ba
          gi_wp2
          exact ⟨KF9, KeepsIn.zero (by have := gS.size; omega), _, n0, n1, n2, n4, n5, HGN, by rw [HMP.out]; exact n7, k9⟩
      · have HPV := Lib.hid (psV_no hgx)
        have HNO : Hid (¬ goodP (pre ++ [x]) = true) := fun h => by have := (HSN.out.1 h).2.1; rw [hgx] at this; cases this
        clear hgx
        gi_wp2_with fail
        refine ⟨trivial, CallsIn.inRound l (callsIn_wide.2 ((parseStep_c x W hxz (hg.below k8)).mono ?_))⟩
        rintro e V2 ⟨rfl, hb2⟩
        rw [HPV.out]
        have hs2 := hb2.size
        have KF2 : KeepsFrom W5.heap.size W V2 := (KeepsNew.below hb2).from
        have hSz : (V2.alloc (.cells #[.int .i64 0, .string ⟨#[]⟩, .string ⟨#[]⟩] 49)).heap.size = V2.heap.size + 1 := by simp
        have B3 : Below V2.heap.size V2 (V2.alloc (.cells #[.int .i64 0, .string ⟨#[]⟩, .string ⟨#[]⟩] 49)) := (Below.refl _ _).alloc (Nat.le_refl _) _
        have KF4 := KF2.trans (KeepsNew.below B3).from
        replace k0 := (k0.keep hb2).keep B3
        replace k1 := (k1.keep hb2).keep B3
        replace k2 := (k2.keep hb2).keep B3
        replace k4 := (k4.keep hb2).keep B3
        replace k5 := (k5.keep hb2).keep B3
        replace k7 := own_keep (own_keep k7 hb2) B3
        replace k8 := (k8.trans (hb2.mono k8.size)).trans (B3.mono (by have := k8.size; omega))
        have mM := At.new V2 49 #[.int .i64 0, .string ⟨#[]⟩, .string ⟨#[]⟩]
        clear B3
        have c0 := k0.cell 0
        have f0 := k0.frozen 0
        have c1 := k1.cell 0
        have f1 := k1.frozen 0
        have c2 := k2.cell 0
        have g0 := grownBy_setCell' (V2.alloc (.cells #[.int .i64 0, .string ⟨#[]⟩, .string ⟨#[]⟩] 49)) w.heap.size (.slice none 0 0)
        have n0 : At ((V2.alloc (.cells #[.int .i64 0, .string ⟨#[]⟩, .string ⟨#[]⟩] 49)).setCell ⟨w.heap.size, 0, none⟩ (.slice none 0 0)) w.heap.size 23 #[.slice none 0 0] := k0.set 0 _
        have n1 := k1.grown g0 (by simp)
        have d1 := n1.cell 0
        have e1 := n1.frozen 0
        have g1 := grownBy_setCell' ((V2.alloc (.cells #[.int .i64 0, .string ⟨#[]⟩, .string ⟨#[]⟩] 49)).setCell ⟨w.heap.size, 0, none⟩ (.slice none 0 0)) (w.heap.size + 1) (.bool false)
        have p0 := n0.grown g1 (by simp)
        have p1 : At (((V2.alloc (.cells #[.int .i64 0, .string ⟨#[]⟩, .string ⟨#[]⟩] 49)).setCell ⟨w.heap.size, 0, none⟩ (.slice none 0 0)).setCell ⟨w.heap.size + 1, 0, none⟩ (.bool false)) (w.heap.size + 1) 4 #[.bool false] := n1.set 0 _
        have p8 := (k8.trans (below_grown g0 k8.size (fun g e => by cases e; omega))).trans (below_grown g1 (by have := k8.size; have := g0.size; omega) (fun g e => by cases e; omega))
        have pk := KF4.trans ((kf_grown (B := W5.heap.size) g0 (fun g o e hge _ => by cases e; omega)).trans (kf_grown (B := W5.heap.size) g1 (fun g o e hge _ => by cases e; omega)))
        clear k0 k1 k2 k4 k5 k7 k8 KF4 KF2 n0 n1 g0 g1 hb2 hSz
        gi_wp2
        exact ⟨pk, rfl, HNO.out, p0, p1, p8⟩
    · intro D W hD hI hd
      obtain ⟨o, k0, k1, k2, k4, k5, k6, k7, k8⟩ := hI
      have HR1 : Hid (sqOk t = true) := by show _ = _; rw [HPC.out.1, k6.out]
      have HR2 : Hid (sqS t = (pcsB 59 t).map pS) := by show _ = _; rw [HPC.out.2, if_pos k6.out]
      generalize hnn : ((pcsB 59 t).map pS).length = nn at k7
      obtain ⟨A0, cap0, rfl, _⟩ := Rd.of_own k7
      have hWs := k8.size
      have c0 := k0.cell 0
      have f0 := k0.frozen 0
      have c2 := k2.cell 0
      have g0 := grownBy_setCell' W w.heap.size (.slice A0 nn cap0)
      have n0 : At (W.setCell ⟨w.heap.size, 0, none⟩ (.slice A0 nn cap0)) w.heap.size 23 #[.slice A0 nn cap0] := k0.set 0 _
      have n1 := k1.grown g0 (by simp)
      have d1 := n1.cell 0
      have e1 := n1.frozen 0
      have g1 := grownBy_setCell' (W.setCell ⟨w.heap.size, 0, none⟩ (.slice A0 nn cap0)) (w.heap.size + 1) (.bool true)
      have p0 := n0.grown g1 (by simp)
      have p1 : At ((W.setCell ⟨w.heap.size, 0, none⟩ (.slice A0 nn cap0)).setCell ⟨w.heap.size + 1, 0, none⟩ (.bool true)) (w.heap.size + 1) 4 #[.bool true] := n1.set 0 _
      have o1 := own_grown k7 g0 (.inl (box_apart k7 k0 (by decide)).symm)
      have o2 := own_more (own_grown o1 g1 (.inl (box_apart o1 n1 (by decide)).symm)) (show w.heap.size ≤ W5.heap.size + 2 by omega)
      have p8 := (k8.trans (below_grown g0 k8.size (fun g e => by cases e; omega))).trans (below_grown g1 (by have := g0.size; omega) (fun g e => by cases e; omega))
      have hd2 : ((W.setCell ⟨w.heap.size, 0, none⟩ (.slice A0 nn cap0)).setCell ⟨w.heap.size + 1, 0, none⟩ (.bool true)).heap[D]? = some (.deferred (some [])) :=
        (g1.block D (by have := (Array.getElem?_eq_some_iff.1 hd).1; have := g0.size; omega) (by simp; omega)).trans ((g0.block D (Array.getElem?_eq_some_iff.1 hd).1 (by simp; omega)).trans hd)
      clear k0 k1 k2 k4 k5 k6 k7 k8 n0 n1 g0 g1 o1
      gi_wp2
      refine ⟨by simp, .inl ⟨D, _, rfl, run_takeDeferred hd2, ?_⟩⟩
      have hrow : ∀ r, (some D : Option Nat) = some r → ∃ o' : Obj, ((W.setCell ⟨w.heap.size, 0, none⟩ (.slice A0 nn cap0)).setCell ⟨w.heap.size + 1, 0, none⟩ (.bool true)).heap[r]? = some o' ∧ o'.isCells = false := fun r e => by cases e; exact ⟨_, hd2, rfl⟩
      refine ⟨_, results_sq _ _ _ _ _ (at_turn p0 (grownBy_putObj' _ D _) hrow) (at_turn p1 (grownBy_putObj' _ D _) hrow) _ rfl rfl, .slice A0 nn cap0, by rw [HR1.out], by rw [HR2.out, hnn]; exact row_turn o2 (grownBy_putObj' _ D _) hrow, p8.trans ⟨rfl, rfl, rfl, by simp [World.putObj], fun k hk => World.putObj_heap_other (by omega)⟩⟩
    · rintro D c pre W hD hp ⟨rfl, hn, k0, k1, k8⟩ hd
      have hmv : goodP (pcsB 59 t) = false := by
        cases h : goodP (pcsB 59 t) with
        | false => rfl
        | true => exact absurd (goodP_prefix hp h) hn
      have HR1 : Hid (sqOk t = false) := by show _ = _; rw [HPC.out.1, hmv]
      have HR2 : Hid (sqS t = []) := by show _ = _; rw [HPC.out.2, hmv]; rfl
      have hWs := k8.size
      clear hmv
      gi_wp2
      refine ⟨by simp, .inl ⟨D, _, rfl, run_takeDeferred hd, ?_⟩⟩
      have hrow : ∀ r, (some D : Option Nat) = some r → ∃ o' : Obj, W.heap[r]? = some o' ∧ o'.isCells = false := fun r e => by cases e; exact ⟨_, hd, rfl⟩
      refine ⟨_, results_sq _ _ _ _ _ (at_turn k0 (grownBy_putObj' _ D _) hrow) (at_turn k1 (grownBy_putObj' _ D _) hrow) _ rfl rfl, .slice none 0 0, by rw [HR1.out], by rw [HR2.out]; exact ⟨rfl, .inl ⟨rfl, rfl⟩⟩, k8.trans ⟨rfl, rfl, rfl, by simp [World.putObj], fun k hk => World.putObj_heap_other (by omega)⟩⟩
end Go.Proofs.YtinggcjjdgibbabDoor
namespace Go.Proofs.YtinggcjjdgibbabDoor
open Go.RowKit Go.PM
attribute [local go_sem] Oper.semAt_some

theorem sliceIn_st {F : Fence} {n : Nat} {o : Oper} {a : Act} {w : World} {K : Act → World → Prop} {Q : Exit → Act → World → Prop} (x : Operand) (ho : o.op = .buildSlice 23 1 #[(0, x)]) (k : Int) (s t : ByteArray) (hx : a.eval x = .agg #[.int .i64 k, .string s, .string t])
    (h : K (a.put o.dst (.slice (some ⟨w.heap.size, 0, none⟩) 1 1)) (w.alloc (.cells #[.int .i64 k, .string s, .string t] 49))) : o.wpIn F n Tryd.prog a w K Q := by
  obtain ⟨i0, hi0, hz0, hz1, hz2⟩ := info_parts infoSt
  refine sliceIn 23 49 1 #[(0, x)] ho #[.int .i64 k, .string s, .string t] i0 _ Tryd.underlying23 hi0 hz0 (by rw [hz1]; decide) (by rw [hz1]; decide) ?_ h
  have hr : Array.range 3 = #[0, 1, 2] := by decide
  simp [hx, hz1, Instr.fill, Value.cells, hr]

set_option maxRecDepth 100000 in
set_option maxHeartbeats 3200000 in
theorem spParseSequence_c (t : ByteArray) (w : World) (ht : t.size ≤ 1048576) :
    Calls Tryd.prog 14 #[.string t] w fun e w' => ∃ v', e = .returned (.tuple #[v', .bool (sqOk t)]) ∧ w'.ownsRow w.heap.size 49 3 v' (sqS t).length (scells (sqS t)) ∧ Below w.heap.size w w' := by
  have hE := World.ownsRow_lit (e := 49) (base := w.heap.size) (size := 3) w #[] 0 (Nat.le_refl _) (Nat.zero_le _) rfl
  have hd45 : (t.toList == [45]) = decide (t = ⟨#[45]⟩) := by
    have e : (ByteArray.mk #[45]).toList = [45] := by rw [ByteArray.toList_eq]
    have h := beq_str t ⟨#[45]⟩
    rw [e] at h; exact h
  by_cases h0 : t = ⟨#[45]⟩
  · have HK : Hid (sqOk t = true) := by show _ = _; rw [sqOk, decide_eq_true h0]; rfl
    have HM : Hid (sqS t = []) := if_pos h0
    subst h0
    clear hd45
    go_enter Tryd.func14, Tryd.ntmps14
    go_wp2
    go_ret2
    exact ⟨_, by rw [HK.out]; rfl, by rw [HM.out]; exact hE, by (repeat' (first | (with_reducible exact Below.refl _ _) | (with_reducible assumption) | (with_reducible refine Below.alloc ?_ ?_ _) | (with_reducible refine Below.drew ?_) | (with_reducible refine Below.setCell ?_ ?_ _) | (with_reducible exact Nat.le_refl _) | omega | ((repeat (first | rewrite [World.size_alloc] | rewrite [World.size_setCell] | rewrite [World.size_drew])); omega) | (simp; omega) | (simp; done)))⟩
  · have HK : Hid (sqOk t = ((cutP t 59).all pSOk && svalid (seqL t))) := by show _ = _; rw [sqOk, decide_eq_false h0]; rfl
    have HM : Hid (sqS t = if (cutP t 59).all pSOk && svalid (seqL t) then seqL t else []) := if_neg h0
    have HL : Hid (seqL t = (cutP t 59).map pS) := rfl
    have hb0 : (t.toList == [45]) = false := by rw [hd45, decide_eq_false h0]
    have HZ : Hid (∀ x ∈ cutP t 59, x.size ≤ 1048576) := fun x hx => Nat.le_trans (cutP_size hx) ht
    have hln := cutP_len t 59
    have HC := Lib.hid (l13Cut_c t 59 (w.alloc (.cells #[] 49)) ht)
    clear h0 hd45
    generalize seqL t = ms at *
    generalize cutP t 59 = ys at *
    go_enter Tryd.func14, Tryd.ntmps14
    go_wp2_with fail
    refine HC.out.mono ?_
    rintro e w1 ⟨u, rfl, ho1, hb1⟩
    have bel1 : Below w.heap.size w w1 := ((Below.refl _ _).alloc (Nat.le_refl _) _).trans (hb1.mono (by simp))
    have hs1 := bel1.size
    have hE1 := own_keep hE hb1
    obtain ⟨A, cap, rfl, hn, hc, _⟩ := Rd.one (Rd.of_own ho1)
    clear HC hE hb1
    go_wp2
    go_loopw [4, 6, 14] (fun o _ i wr => ∃ (k : Nat), k ≤ ys.length ∧ i = .int .i64 k ∧ Hid (∀ j (hj : j < ys.length), j < k → pSOk ys[j] = true) ∧ wr.ownsRow w.heap.size 49 3 o ((ys.take k).map pS).length (scells ((ys.take k).map pS)) ∧ Below w.heap.size w wr ∧ wr.ownsRow (w.alloc (.cells #[] 49)).heap.size 9 1 (.slice A ys.length cap) ys.length (ys.map Value.string)) (fun _ _ i _ => ys.length - (intOf i).toNat)
    case atStart => exact ⟨0, by omega, rfl, fun j _ h => absurd h (Nat.not_lt_zero _), hE1, bel1, ho1⟩
    case round =>
      obtain ⟨k, hk, rfl, hp, ho, hb, hy⟩ := hrel
      have hbs := hb.size
      by_cases hlt : k < ys.length
      · obtain ⟨A', cap', e', _, _, hcell⟩ := Rd.one (Rd.of_own hy)
        obtain ⟨rfl, rfl⟩ : A = A' ∧ cap = cap' := by cases e'; exact ⟨rfl, rfl⟩
        clear e'
        obtain ⟨b, off, rfl, hbl, hd1⟩ := hcell k hlt
        have hsz := HZ.out ys[k] (List.getElem_mem hlt)
        have HNO : Hid (pSOk ys[k] = false → ys.all pSOk = false) := fun h => all_no k hlt h
        have HST : Hid ((ys.take (k + 1)).map pS = (ys.take k).map pS ++ [pS ys[k]]) := by show _ = _; rw [take_snoc ys k hlt, List.map_append]; rfl
        have HPP : Hid (pSOk ys[k] = true → ∀ j (hj : j < ys.length), j < k + 1 → pSOk ys[j] = true) := fun h j hj hjk => by
          rcases Nat.lt_succ_iff_lt_or_eq.1 hjk with h2 | h2
          · exact hp.out j hj h2
          · subst h2; exact h
        have hl2 : ((ys.take k).map pS).length ≤ k := by simp; omega
        clear hcell
        generalize ys[k] = x at *
        by_cases h3 : x.size = 3
        · obtain ⟨a, e, c, rfl⟩ := three_of_size h3
          have hx0 : (ByteArray.mk #[a, e, c]).extract 0 1 = ⟨#[a]⟩ := rfl
          have hx1 : (ByteArray.mk #[a, e, c]).extract 2 3 = ⟨#[c]⟩ := rfl
          by_cases h61 : e = 61
          · subst h61
            have hF : ∀ W, Calls Tryd.prog 37 #[.string ⟨#[61, 126]⟩, .int .u8 (61 : UInt8).toNat] W fun e' w' => e' = .returned (.int .i64 0) ∧ W = w' := fun W => l13Find_c ⟨#[61, 126]⟩ 61 W (by decide)
            have HPM : Hid (pS ⟨#[a, 61, c]⟩ = (0, ⟨#[a]⟩, ⟨#[c]⟩)) := rfl
            have HP2 := Lib.hid (HPP.out rfl)
            have hnw := st_new wr.drew 0 ⟨#[a]⟩ ⟨#[c]⟩
            have hsd : wr.drew.heap.size = wr.heap.size := rfl
            clear HNO HPP
            go_wp2_with (go_at_call 37; refine (hF _).mono ?_; rintro e' w' ⟨rfl, rfl⟩)
            refine region_late_wide (m := 0) (C := fun w' => w' = wr.drew) (D := fun _ => True) 10 (by kernel_rfl) (by kernel_rfl) _ _ (by rfl) (by rfl) (by rfl) u4 (by intro _ _ _ h; exact h) (yieldsD_move (by rfl) _ (by rfl) u4 (by rfl)) (fun _ _ => trivial) rfl ?_
            simp only [List.take_succ_cons, List.take_zero, List.drop_succ_cons, List.drop_zero, Nat.reduceSub, Nat.reduceAdd]
            simp only [Act.put, List.setIfInBounds_toArray, List.set_cons_succ, List.set_cons_zero]
            gi_big_quiet_step (fail)
            gi_big_quiet_step (fail)
            refine BigFrame.wpQuietIn_want (fun _ _ _ _ => trivial) rfl (fun K hK => ?_)
            gi_big_quiet_op
            refine ⟨_, ⟨rfl, callsIn_wide.2 ((hF _).mono (fun e w' h => ⟨h.1, h.2.symm⟩))⟩, hK _ ?_⟩
            clear hK K
            repeat (gi_big_quiet_step (fail))
            refine wpQuietIn_nil ?_
            intro w' hw' K hK
            subst hw'
            refine sliceIn_st (.tmp 37) rfl 0 ⟨#[a]⟩ ⟨#[c]⟩ (by rfl) ?_
            refine hK _ _ trivial ?_
            clear hK K
            simp only [Act.put, List.setIfInBounds_toArray, List.set_cons_succ, List.set_cons_zero]
            refine listIn_st rfl (.tmp 28) (.tmp 38) rfl w.heap.size u4 ((ys.take k).map pS) (0, ⟨#[a]⟩, ⟨#[c]⟩) ⟨wr.drew.heap.size, 0, none⟩ 1 (by rfl) (by rfl) (own_keep (show wr.drew.ownsRow w.heap.size 49 3 u4 ((ys.take k).map pS).length (scells ((ys.take k).map pS)) from ho) ((Below.refl _ _).alloc (Nat.le_refl _) _)) hnw (by omega) (by simp; omega) ?_
            intro v' w3 hown3 hgrow3
            have hb3 := below_grown hgrow3 (B := w.heap.size) (by simp; omega) (own_block_ge ho)
            have hy3 := own_grown (own_keep (show wr.drew.ownsRow (w.alloc (.cells #[] 49)).heap.size 9 1 (.slice (some ⟨b, off, none⟩) ys.length cap) ys.length (ys.map Value.string) from hy) ((Below.refl _ _).alloc (Nat.le_refl _) _)) hgrow3 (rows_apart hy ho (by decide))
            have hbd : Below w.heap.size w wr.drew := hb.drew
            gi_wp2
            go_wp2
            go_roundw
            case rel => exact ⟨k + 1, by omega, by go_num, HP2.out, by rw [HST.out, HPM.out]; exact hown3, (hbd.alloc hbs _).trans hb3, hy3⟩
            case measure => simp [intOf] <;> omega
          by_cases h61b : e = 126
          · subst h61b
            have hF : ∀ W, Calls Tryd.prog 37 #[.string ⟨#[61, 126]⟩, .int .u8 (126 : UInt8).toNat] W fun e' w' => e' = .returned (.int .i64 1) ∧ W = w' := fun W => l13Find_c ⟨#[61, 126]⟩ 126 W (by decide)
            have HPM : Hid (pS ⟨#[a, 126, c]⟩ = (1, ⟨#[a]⟩, ⟨#[c]⟩)) := rfl
            have HP2 := Lib.hid (HPP.out rfl)
            have hnw := st_new wr.drew 1 ⟨#[a]⟩ ⟨#[c]⟩
            have hsd : wr.drew.heap.size = wr.heap.size := rfl
            clear HNO HPP
            go_wp2_with (go_at_call 37; refine (hF _).mono ?_; rintro e' w' ⟨rfl, rfl⟩)
            refine region_late_wide (m := 0) (C := fun w' => w' = wr.drew) (D := fun _ => True) 10 (by kernel_rfl) (by kernel_rfl) _ _ (by rfl) (by rfl) (by rfl) u4 (by intro _ _ _ h; exact h) (yieldsD_move (by rfl) _ (by rfl) u4 (by rfl)) (fun _ _ => trivial) rfl ?_
            simp only [List.take_succ_cons, List.take_zero, List.drop_succ_cons, List.drop_zero, Nat.reduceSub, Nat.reduceAdd]
            simp only [Act.put, List.setIfInBounds_toArray, List.set_cons_succ, List.set_cons_zero]
            gi_big_quiet_step (fail)
            gi_big_quiet_step (fail)
            refine BigFrame.wpQuietIn_want (fun _ _ _ _ => trivial) rfl (fun K hK => ?_)
            gi_big_quiet_op
            refine ⟨_, ⟨rfl, callsIn_wide.2 ((hF _).mono (fun e w' h => ⟨h.1, h.2.symm⟩))⟩, hK _ ?_⟩
            clear hK K
            repeat (gi_big_quiet_step (fail))
            refine wpQuietIn_nil ?_
            intro w' hw' K hK
            subst hw'
            refine sliceIn_st (.tmp 37) rfl 1 ⟨#[a]⟩ ⟨#[c]⟩ (by rfl) ?_
            refine hK _ _ trivial ?_
            clear hK K
            simp only [Act.put, List.setIfInBounds_toArray, List.set_cons_succ, List.set_cons_zero]
            refine listIn_st rfl (.tmp 28) (.tmp 38) rfl w.heap.size u4 ((ys.take k).map pS) (1, ⟨#[a]⟩, ⟨#[c]⟩) ⟨wr.drew.heap.size, 0, none⟩ 1 (by rfl) (by rfl) (own_keep (show wr.drew.ownsRow w.heap.size 49 3 u4 ((ys.take k).map pS).length (scells ((ys.take k).map pS)) from ho) ((Below.refl _ _).alloc (Nat.le_refl _) _)) hnw (by omega) (by simp; omega) ?_
            intro v' w3 hown3 hgrow3
            have hb3 := below_grown hgrow3 (B := w.heap.size) (by simp; omega) (own_block_ge ho)
            have hy3 := own_grown (own_keep (show wr.drew.ownsRow (w.alloc (.cells #[] 49)).heap.size 9 1 (.slice (some ⟨b, off, none⟩) ys.length cap) ys.length (ys.map Value.string) from hy) ((Below.refl _ _).alloc (Nat.le_refl _) _)) hgrow3 (rows_apart hy ho (by decide))
            have hbd : Below w.heap.size w wr.drew := hb.drew
            gi_wp2
            go_wp2
            go_roundw
            case rel => exact ⟨k + 1, by omega, by go_num, HP2.out, by rw [HST.out, HPM.out]; exact hown3, (hbd.alloc hbs _).trans hb3, hy3⟩
            case measure => simp [intOf] <;> omega
          · have hF : ∀ W, Calls Tryd.prog 37 #[.string ⟨#[61, 126]⟩, .int .u8 e.toNat] W fun e' w' => e' = .returned (.int .i64 (-1)) ∧ W = w' := fun W => by
              have := l13Find_c ⟨#[61, 126]⟩ e W (by decide)
              have h2 := sK_no h61 h61b
              unfold sK at h2
              rwa [show (ByteArray.mk #[61, 126]).data.toList = [61, 126] from rfl, h2] at this
            have HD : Hid (ys.all pSOk = false) := HNO.out (by simp [pSOk, h61, h61b])
            have hE3 := World.ownsRow_lit (e := 49) (base := w.heap.size) (size := 3) wr #[] 0 hbs (Nat.zero_le _) rfl
            go_wp2_with (go_at_call 37; refine (hF _).mono ?_; rintro e' w' ⟨rfl, rfl⟩)
            go_ret2
            exact ⟨_, by rw [HK.out, HD.out]; rfl, by rw [HM.out, HD.out]; exact hE3, hb.alloc hbs _⟩
        · have q : ¬ ((x.size : Int) = 3) := by omega
          have HD : Hid (ys.all pSOk = false) := HNO.out (pSOk_size h3)
          have hE3 := World.ownsRow_lit (e := 49) (base := w.heap.size) (size := 3) wr #[] 0 hbs (Nat.zero_le _) rfl
          go_wp2
          go_ret2
          exact ⟨_, by rw [HK.out, HD.out]; rfl, by rw [HM.out, HD.out]; exact hE3, hb.alloc hbs _⟩
      · have hkk : k = ys.length := by omega
        have HA : Hid (ys.all pSOk = true) := all_yes fun j hj => hp.out j hj (by omega)
        rw [hkk, List.take_of_length_le (Nat.le_refl _), ← HL.out] at ho
        have HMV := Lib.hid (spSequenceValid_c ms u4 wr (Rd.of_own ho))
        go_wp2_with fail
        refine HMV.out.mono ?_
        rintro e w3 ⟨rfl, hb3⟩
        rcases Bool.eq_false_or_eq_true (svalid ms) with hv | hv
        · have HV := Lib.hid hv
          rw [hv]
          have ho3 := own_keep ho hb3
          clear hv
          go_wp2
          go_ret2
          exact ⟨_, by rw [HK.out, HA.out, HV.out]; rfl, by rw [HM.out, HA.out, HV.out]; exact ho3, hb.trans (hb3.mono hbs)⟩
        · have HV := Lib.hid hv
          rw [hv]
          have hE3 := World.ownsRow_lit (e := 49) (base := w.heap.size) (size := 3) w3 #[] 0 (Nat.le_trans hbs hb3.size) (Nat.zero_le _) rfl
          clear hv
          go_wp2
          go_ret2
          exact ⟨_, by rw [HK.out, HA.out, HV.out]; rfl, by rw [HM.out, HA.out, HV.out]; exact hE3, ((hb.trans (hb3.mono hbs)).alloc (Nat.le_trans hbs hb3.size) _)⟩
end Go.Proofs.YtinggcjjdgibbabDoor
namespace Go.Proofs.YtinggcjjdgibbabDoor
open Go.RowKit Go.PM Go.ChangeShapes Go.WideShapes Go.Deep

theorem own : ownKnob Tryd.prog.godebug = none := by kernel_rfl
theorem laidOut : laidOutB Tryd.prog = true := by kernel_rfl

theorem exists_list {α : Type} (Q : Nat → α → Prop) : ∀ n, (∀ i, i < n → ∃ m, Q i m) → ∃ xs : List α, xs.length = n ∧ ∀ i (h : i < xs.length), Q i xs[i]
  | 0, _ => ⟨[], rfl, fun i h => absurd h (Nat.not_lt_zero _)⟩
  | n + 1, h => by
    obtain ⟨xs, hl, hx⟩ := exists_list Q n fun i hi => h i (by omega)
    obtain ⟨m, hm⟩ := h n (by omega)
    refine ⟨xs ++ [m], by simp [hl], fun i hi => ?_⟩
    by_cases h1 : i < xs.length
    · rw [List.getElem_append_left h1]; exact hx i h1
    · have h2 : i = xs.length := by simp at hi; omega
      subst h2
      rw [List.getElem_append_right (Nat.le_refl _)]
      simpa [hl] using hm

theorem rdM_mk {w : World} {ad : Addr} {cap : Nat} (xs : List Mv) (hc : xs.length ≤ cap) (hn : xs.length ≤ 9223372036854775807)
    (h : ∀ i (hi : i < xs.length), w.cell? (ad.add (i * 2)) = some (.string xs[i].1) ∧ w.cell? ((ad.add (i * 2)).add 1) = some (.string xs[i].2)) : RdM w (.slice (some ad) xs.length cap) xs := by
  refine ⟨some ad, cap, rfl, hc, hn, mcells_length xs, fun h0 => ?_⟩
  have h1 := (h 0 h0).1
  obtain ⟨b, off, spot⟩ := ad
  have hs : spot = none := by
    have := World.cell?_spot h1
    simpa [Addr.add] using this
  subst hs
  have hadd : ∀ o i, (Addr.mk b o none).add i = ⟨b, o + i, none⟩ := fun o i => by
    unfold Addr.add; split
    · next h => subst h; rfl
    · rfl
  refine ⟨b, off, rfl, ?_, fun j u hu => ?_⟩
  · rcases Nat.lt_or_ge b w.heap.size with hlt | hge
    · exact hlt
    · rw [hadd] at h1
      simp [World.cell?, Array.getElem?_eq_none hge] at h1
  · have hj : j < xs.length * 2 := by rw [← mcells_length]; exact (List.getElem?_eq_some_iff.1 hu).1
    have hk : j / 2 < xs.length := by omega
    have hm := mcells_at xs (j / 2) _ (List.getElem?_eq_getElem hk)
    have hh := h (j / 2) hk
    rw [hadd, hadd] at hh
    rcases Nat.mod_two_eq_zero_or_one j with h0 | h0
    · have e : j / 2 * 2 = j := by omega
      rw [e] at hm hh
      rw [hm.1] at hu
      rw [hh.1, hu]
    · have e : j / 2 * 2 + 1 = j := by omega
      rw [e] at hm
      rw [Nat.add_assoc, e] at hh
      rw [hm.2] at hu
      rw [hh.2, hu]

end Go.Proofs.YtinggcjjdgibbabDoor
namespace Go.Proofs.YtinggcjjdgibbabDoor
open Go.RowKit Go.PM Go.ChangeShapes Go.WideShapes
theorem gSigns : Tryd.prog.globalNamed "loop.example/parallelmoves/impl.stepSigns" = some 0 := by kernel_rfl
theorem gSignsType : (Tryd.prog.globals[0]?).map (·.type) = some 88 := by kernel_rfl
theorem cellsSigns : Tryd.prog.cellsOf 88 = 2 := by kernel_rfl
theorem cellsStr1 : Tryd.prog.cellsOf 9 = 1 := by kernel_rfl
abbrev laidL : List (String × DataW Unit) := [("loop.example/parallelmoves/impl.stepSigns", Rows.laid_loop_example_parallelmoves_impl_stepSigns)]
def signCells : Array Value := #[.string ⟨#[61]⟩, .string ⟨#[126]⟩]
theorem bytes_eq {s : ByteArray} {l : List UInt8} (h : s.data.toList = l) : s = ⟨l.toArray⟩ := by
  subst h; simp
theorem cells_of_signs {H : Type} {enc : TypeId × Value → H} {W : World} {base : Nat} {sp : Nat → Bool} {held : Bool} {fuel : Nat} {cs : Array Value} {p : List MemPlace}
    (hd : DataW.trod enc Tryd.prog W base sp held fuel 88 cs.toList = some (.agg [.lit (.string [61]), .lit (.string [126])], p)) : cs = signCells := by
  obtain ⟨l⟩ := cs
  cases fuel with
  | zero => simp [DataW.trod] at hd
  | succ fuel =>
    simp only [DataW.trod, Tryd.underlying88, cellsSigns, cellsStr1] at hd
    split at hd
    · rename_i hl
      obtain ⟨c0, c1, rfl⟩ : ∃ c0 c1, l = [c0, c1] := by
        match l, hl with
        | [a, b], _ => exact ⟨a, b, rfl⟩
      have e : List.range 2 = [0, 1] := rfl
      rw [e] at hd
      simp only [Option.map_eq_some_iff, List.mapM_cons, List.mapM_nil, Option.bind_eq_bind, Option.bind_eq_some_iff, Option.pure_def, Option.some.injEq] at hd
      obtain ⟨xs, ⟨y0, h0, _, ⟨y1, h1, _, rfl, rfl⟩, rfl⟩, hx⟩ := hd
      obtain ⟨s0, e0, rfl, _⟩ := DataW.trod_string Tryd.underlying9 h0
      obtain ⟨s1, e1, rfl, _⟩ := DataW.trod_string Tryd.underlying9 h1
      simp at e0 e1 hx
      obtain ⟨⟨hx0, hx1⟩, _⟩ := hx
      subst e0; subst e1
      rw [bytes_eq hx0, bytes_eq hx1]; rfl
    · cases hd
theorem var_of_laid {W : World} (h : laidMetH Tryd.prog laidL W) : W.var? Tryd.prog "loop.example/parallelmoves/impl.stepSigns" = some signCells := by
  have h' : laidMet Tryd.prog laidL W := h
  obtain ⟨ps, ⟨g, t, cs, fuel, p, q, hg, ht, hvar, hd, _, _⟩, _⟩ := h'
  obtain rfl := Option.some.inj (gSigns.symm.trans hg)
  obtain rfl := Option.some.inj (gSignsType.symm.trans ht)
  rw [hvar]
  congr 1
  exact cells_of_signs hd
theorem sg_of_var {W : World} (h : W.var? Tryd.prog "loop.example/parallelmoves/impl.stepSigns" = some signCells) : Sg W := by
  have h0 : W.cell? ⟨0, 0, none⟩ = some (.string ⟨#[61]⟩) := World.var?_cell gSigns h 0
  have h1 : W.cell? ⟨0, 1, none⟩ = some (.string ⟨#[126]⟩) := World.var?_cell gSigns h 1
  refine ⟨h0, h1, ?_⟩
  refine Classical.byContradiction fun hn => ?_
  unfold World.cell? at h0
  rw [Array.getElem?_eq_none (by simpa using hn)] at h0
  cases h0
noncomputable def laidWorld (os : Os) : World :=
  let w0 := World.holding Tryd.prog os ⟨#[], #[], []⟩
  { w0 with heap := w0.heap.modify 0 fun
      | .cells _ t frozen => .cells signCells t frozen
      | o => o }
set_option maxRecDepth 100000 in
theorem reads_signs {H : Type} (enc : TypeId × Value → H) (W : World) (sp : Nat → Bool) : DataW.trod enc Tryd.prog W 0 sp true 3 88 signCells.toList = some (.agg [.lit (.string [61]), .lit (.string [126])], []) := by kernel_rfl
set_option maxRecDepth 100000 in
theorem laidWorld_row (os : Os) (args : Array Value) : ((laidWorld os).forCall (fun _ _ => 0) ⟨#[], args, []⟩).memory.heap[0]? = some (.cells signCells 88 (0, 0)) := by kernel_rfl
set_option maxRecDepth 100000 in
theorem laidWorld_met (os : Os) (args : Array Value) : laidMetH Tryd.prog laidL ((laidWorld os).forCall (fun _ _ => 0) ⟨#[], args, []⟩).memory := by
  show laidMet Tryd.prog laidL _
  exact ⟨_, ⟨0, 88, signCells, 8, [], [], by kernel_rfl, by kernel_rfl, by kernel_rfl, by kernel_rfl, rfl, rfl⟩, by decide, fun b off h => by
    have h' : MemPlace.cell b off ∈ [MemPlace.cell 0 0, .cell 0 1] := h
    have hb : b = 0 := by
      simp at h'
      omega
    subst hb
    refine ⟨⟨_, _, laidWorld_row os args⟩, fun u v hc => ?_⟩
    simp only [World.cell?, laidWorld_row os args] at hc
    simp at h'
    rcases h' with rfl | rfl <;> simp [signCells] at hc⟩
set_option maxRecDepth 100000 in
/-- what the row's condition on the table gives, and that the table reads behind the call as before -/
theorem signs_open {H : Type} {enc : TypeId × Value → H} {W : World} {gs : List (DataW H)} {q : List MemPlace} (hL : laidMetH Tryd.prog laidL W) (hV : DataW.TrodVars enc Tryd.prog W (fun _ => true) ["loop.example/parallelmoves/impl.stepSigns"] gs q) :
    ∃ (g : DataW H) (q1 : List MemPlace), gs = [g] ∧ Sg W ∧ ∀ (W' : World), Below W.heap.size W W' → ∀ sp : Nat → Bool, DataW.TrodVars enc Tryd.prog W' sp ["loop.example/parallelmoves/impl.stepSigns"] [g] q1 := by
  obtain ⟨g, t, cs, fuel, d, p', rfl, hg, ht, hvar, hd, rfl⟩ := trodVars_one hV
  obtain rfl := Option.some.inj (gSigns.symm.trans hg)
  obtain rfl := Option.some.inj (gSignsType.symm.trans ht)
  have hv := var_of_laid hL
  obtain rfl : cs = signCells := Option.some.inj (hvar.symm.trans hv)
  obtain ⟨rfl, rfl⟩ := DataW.Trod.unique (v := .agg signCells) ⟨fuel, hd⟩ ⟨3, reads_signs enc W _⟩
  have hs := sg_of_var hv
  refine ⟨_, _, rfl, hs, fun W' hb sp => trodVars_mk1 gSigns gSignsType (cs := signCells) (fuel := 3) ?_ (reads_signs enc W' sp)⟩
  have hh : W'.heap[0]? = W.heap[0]? := hb.block _ hs.lt
  rw [← hv]
  unfold World.var?
  rw [gSigns]
  simp only [Option.bind_some, hh]
end Go.Proofs.YtinggcjjdgibbabDoor
namespace Go.PM
open Go.RowKit
theorem srcM_nil (a : ByteArray) : srcM [] a = a := rfl
theorem srcM_cons (m : Mv) (xs : List Mv) (a : ByteArray) : srcM (m :: xs) a = if m.1 = a then m.2 else srcM xs a := by
  unfold srcM
  rw [List.find?_cons]
  by_cases h : m.1 = a <;> simp [h]
theorem srcM_none {xs : List Mv} {a : ByteArray} (h : a ∉ xs.map (·.1)) : srcM xs a = a := by
  unfold srcM
  have : xs.find? (fun m => decide (m.1 = a)) = none := by
    rw [List.find?_eq_none]
    intro m hm e
    exact h (List.mem_map.2 ⟨m, hm, by simpa using e⟩)
  rw [this]; rfl
theorem srcM_busy : ∀ (xs : List Mv) (a : ByteArray), (xs.map (·.1)).Nodup → srcM (busyM xs) a = srcM xs a
  | [], _, _ => rfl
  | m :: xs, a, h => by
    rw [List.map_cons, List.nodup_cons] at h
    have ih := srcM_busy xs a h.2
    by_cases he : m.1 = m.2
    · have e : busyM (m :: xs) = busyM xs := by simp [busyM, he]
      rw [e, ih, srcM_cons]
      by_cases hm : m.1 = a
      · rw [if_pos hm, ← he, hm]
        exact srcM_none (by rw [← hm]; exact h.1)
      · rw [if_neg hm]
    · have e : busyM (m :: xs) = m :: busyM xs := by simp [busyM, he]
      rw [e, srcM_cons, srcM_cons, ih]
theorem busyM_MV {xs : List Mv} (h : MV xs) : MV (busyM xs) :=
  ⟨fun m hm => h.1 m (List.mem_filter.1 hm).1, h.2.sublist (List.Sublist.map _ (List.filter_sublist ..))⟩
theorem find_nm : ∀ p, p < 9 → (List.range 9).find? (fun q => decide (nm q = nm p)) = some p := by
  intro p hp
  match p, hp with
  | 0, _ | 1, _ | 2, _ | 3, _ | 4, _ | 5, _ | 6, _ | 7, _ | 8, _ => decide +kernel
theorem srcM_effL (g : Nat → UInt8) (p : Nat) (hp : p < 9) : srcM (effL g 9) (nm p) = ⟨#[g p]⟩ := by
  unfold srcM effL
  rw [List.find?_map]
  have e : ((fun m : Mv => decide (m.1 = nm p)) ∘ effA g) = fun q => decide (nm q = nm p) := rfl
  rw [e, find_nm p hp]; rfl
def nmT : Nat → UInt8 := fun q => cellsL.getD q 0
theorem rd_name {a : ByteArray} (h : isS a = true) : (⟨#[rdS nmT a]⟩ : ByteArray) = a := by
  rcases Bool.eq_false_or_eq_true (isC a) with hc | hc
  · rw [rdS_cell hc]
    obtain ⟨c, rfl⟩ := one_of_size (isC_size hc)
    have h2 : c ∈ cellsL := by simpa [isC] using hc
    show (⟨#[cellsL.getD (cidx ⟨#[c]⟩) 0]⟩ : ByteArray) = _
    rw [(cidx_one h2).2.2]
  · rw [rdS_digit hc]; exact (fc_one (isS_size h)).symm
theorem srcM_isSr {xs : List Mv} (h : MV xs) (p : Nat) (hp : p < 9) : isS (srcM xs (nm p)) = true := by
  unfold srcM
  cases hf : xs.find? (fun m => decide (m.1 = nm p)) with
  | none => show isS (nm p) = true; unfold isS; rw [isP_nm hp]; rfl
  | some m =>
    have h1 := h.1 m (List.mem_of_find?_eq_some hf)
    unfold mok at h1; rw [Bool.and_eq_true] at h1
    exact h1.2
def irB (xs : List St) (ys : List Mv) : Bool := effOk xs && sameM (effM xs) ys
theorem one_inj {a b : UInt8} : (⟨#[a]⟩ : ByteArray) = ⟨#[b]⟩ ↔ a = b := by
  constructor
  · intro h
    have := congrArg (fun s : ByteArray => s.data.toList) h
    simpa using this
  · intro h; rw [h]
theorem irB_eq (xs : List St) (ys : List Mv) (h1 : svalid xs = true) (h2 : MV ys) :
    ((List.range 11).all fun p => decide ((if p < 9 then effG xs p else nmT p) = aoS (tabOf ys) nmT p)) = irB xs ys := by
  have m2 : mvalid ys = true := by simpa [mvalid] using h2
  have key : ∀ p, p < 9 → (effG xs p = aoS (tabOf ys) nmT p ↔ (⟨#[effG xs p]⟩ : ByteArray) = srcM ys (nm p)) := fun p hp => by
    unfold aoS
    rw [if_pos hp, srcM_nm h2 hp, ← one_inj, rd_name (srcM_isSr h2 p hp)]
  have e11 : ∀ P : Nat → Prop, (∀ p, p < 11 → P p) ↔ ((∀ p, p < 9 → P p) ∧ P 9 ∧ P 10) := fun P => by
    constructor
    · intro h; exact ⟨fun p hp => h p (by omega), h 9 (by omega), h 10 (by omega)⟩
    · rintro ⟨h, h9, h10⟩ p hp
      by_cases hp9 : p < 9
      · exact h p hp9
      · have : p = 9 ∨ p = 10 := by omega
        rcases this with rfl | rfl
        · exact h9
        · exact h10
  rw [Bool.eq_iff_iff, List.all_eq_true]
  have hl : (∀ p ∈ List.range 11, decide ((if p < 9 then effG xs p else nmT p) = aoS (tabOf ys) nmT p) = true) ↔ ∀ p, p < 9 → (⟨#[effG xs p]⟩ : ByteArray) = srcM ys (nm p) := by
    have : (∀ p ∈ List.range 11, decide ((if p < 9 then effG xs p else nmT p) = aoS (tabOf ys) nmT p) = true) ↔ ∀ p, p < 11 → (if p < 9 then effG xs p else nmT p) = aoS (tabOf ys) nmT p := by
      constructor
      · intro h p hp; simpa using h p (by simpa using hp)
      · intro h p hp; simpa using h p (by simpa using hp)
    rw [this, e11]
    constructor
    · rintro ⟨h, _, _⟩ p hp
      have := h p hp
      rw [if_pos hp] at this
      exact (key p hp).1 this
    · intro h
      refine ⟨fun p hp => ?_, ?_, ?_⟩
      · rw [if_pos hp]; exact (key p hp).2 (h p hp)
      · simp [aoS]
      · simp [aoS]
  rw [hl]
  unfold irB
  rcases Bool.eq_false_or_eq_true (effOk xs) with ho | ho
  · have hmv : MV (effL (effG xs) 9) := by
      unfold effOk at ho; rw [Bool.and_eq_true] at ho
      simpa [mvalid] using ho.2
    have m1 : mvalid (effM xs) = true := by rw [effM_yes ho]; simpa [mvalid] using busyM_MV hmv
    rw [ho, Bool.true_and, sameM, m1, m2, Bool.true_and, Bool.true_and, List.all_eq_true]
    have hk : ∀ p, p < 9 → srcM (effM xs) (nm p) = ⟨#[effG xs p]⟩ := fun p hp => by
      rw [effM_yes ho, srcM_busy _ _ hmv.2, srcM_effL _ p hp]
    constructor
    · intro h p hp
      have hp9 : p < 9 := by simpa using hp
      rw [sameAt, hk p hp9]; simpa using h p hp9
    · intro h p hp
      have := h p (by simpa using hp)
      rw [sameAt, hk p hp] at this; simpa using this
  · rw [ho, Bool.false_and]
    constructor
    · intro h
      have hmv : MV (effL (effG xs) 9) := (effL_MV _).2 fun p hp => by rw [h p hp]; exact srcM_isSr h2 p hp
      have : effOk xs = true := by rw [effOk, h1]; simpa [mvalid] using hmv
      rw [this] at ho; cases ho
    · intro h; cases h
end Go.PM
namespace Go.Proofs.YtinggcjjdgibbabDoor
open Go.RowKit Go.PM
attribute [local go_sem] Oper.semAt_some

theorem busyE_sizes (xs : List St) : (∀ m ∈ effM xs, m.1.size ≤ 9223372036854775807 ∧ m.2.size ≤ 9223372036854775807) ∧ (effM xs).length ≤ 9 := by
  rcases Bool.eq_false_or_eq_true (effOk xs) with h | h
  · rw [effM_yes h]
    refine ⟨fun m hm => ?_, busyE_le _ 9⟩
    have h2 := (List.mem_filter.1 hm).1
    obtain ⟨p, _, rfl⟩ := List.mem_map.1 h2
    exact ⟨by show (1 : Nat) ≤ _; omega, by show (1 : Nat) ≤ _; omega⟩
  · rw [effM_no h]
    exact ⟨by simp, by simp⟩

set_option maxHeartbeats 800000 in
theorem spIsRight_c (xs : List St) (ys : List Mv) (v u : Value) (w : World) (hx : RdS w v xs) (hy : RdM w u ys) (hzy : ∀ m ∈ ys, m.1.size ≤ 9223372036854775807 ∧ m.2.size ≤ 9223372036854775807) (hny : ys.length ≤ 1048576) :
    Calls Tryd.prog 17 #[v, u] w fun e w' => e = .returned (.bool (irB xs ys)) ∧ Below w.heap.size w w' := by
  have hef := Lib.hid (spEffectOf_c xs v w hx)
  have HB : Hid (irB xs ys = (effOk xs && sameM (effM xs) ys)) := rfl
  have hbz := busyE_sizes xs
  have HSM := Lib.hid (fun (u1 : Value) (W : World) (hW : Below w.heap.size w W) (h1 : RdM W u1 (effM xs)) => spSameMoves_c (effM xs) ys u1 u W h1 (hy.below hW) hbz.1 (Nat.le_trans hbz.2 (by omega)) hzy hny)
  clear hx hbz hy
  rcases Bool.eq_false_or_eq_true (effOk xs) with h | h
  · have H1 := Lib.hid h
    clear h
    go_enter Tryd.func17, Tryd.ntmps17
    go_wp2_with fail
    refine hef.out.mono ?_
    rintro e w1 ⟨v1, rfl, ho1, hb1⟩
    rw [H1.out]
    have hr1 : RdM w1 v1 (effM xs) := Rd.of_own ho1
    have hs1 := hb1.size
    have hsm := HSM.out v1 w1 hb1 hr1
    have HS2 := Lib.hid hsm
    clear hsm hr1 HSM ho1
    go_wp2_with (go_at_call 45; refine HS2.out.mono ?_; rintro e w2 ⟨rfl, hb2⟩)
    go_ret
    exact ⟨by rw [HB.out, H1.out]; rfl, hb1.trans (hb2.mono hs1)⟩
  · have H1 := Lib.hid h
    clear h HSM
    go_enter Tryd.func17, Tryd.ntmps17
    go_wp2_with fail
    refine hef.out.mono ?_
    rintro e w1 ⟨v1, rfl, ho1, hb1⟩
    rw [H1.out]
    clear ho1
    go_wp2
    go_ret
    exact ⟨by rw [HB.out, H1.out]; rfl, hb1⟩
theorem eq_u8 (d : Nat) (a b : UInt8) (W : World) : (Op.equalIn (d + 1) 5 (.int .u8 a.toNat) (.int .u8 b.toNat)).run Tryd.prog W = .ok (decide (a = b)) W := by
  have : (((a.toNat : Int) == (b.toNat : Int))) = decide (a = b) := by
    rw [Bool.eq_iff_iff, beq_iff_eq, decide_eq_true_eq, ← UInt8.toNat_inj]; omega
  simp [Op.equalIn, go_sem, this]
theorem eqS_items (f g : Nat → UInt8) (W : World) : ∀ is : List Nat, (∀ i ∈ is, i < 11) → (Op.eqItems 9999 5 1 (stC f) (stC g) is).run Tryd.prog W = .ok (is.all fun p => decide (f p = g p)) W := by
  intro is
  induction is with
  | nil => intro _; rfl
  | cons i is ih =>
    intro h
    have hi := h i (List.mem_cons_self ..)
    have h1 : (part 5 (stC f) (i * 1)).run Tryd.prog W = .ok (.int .u8 (f i).toNat) W := run_part_plain (P := Tryd.prog) W (by kernel_rfl) (by rw [Nat.mul_one]; exact stC_at f i hi)
    have h2 : (part 5 (stC g) (i * 1)).run Tryd.prog W = .ok (.int .u8 (g i).toNat) W := run_part_plain (P := Tryd.prog) W (by kernel_rfl) (by rw [Nat.mul_one]; exact stC_at g i hi)
    have h3 := eq_u8 9998 (f i) (g i) W
    rw [Op.eqItems, Sem.run_bind, h1, Result.andThen_ok, Sem.run_bind, h2, Result.andThen_ok, Sem.run_bind, h3, Result.andThen_ok, List.all_cons]
    cases hb : decide (f i = g i)
    · rfl
    · rw [if_neg (by decide), ih (fun j hj => h j (List.mem_cons_of_mem _ hj)), Bool.true_and]
theorem eq_st (f g : Nat → UInt8) (W : World) : (Op.equalIn 10000 71 (stV f) (stV g)).run Tryd.prog W = .ok ((List.range 11).all fun p => decide (f p = g p)) W := by
  have his : (Tryd.prog.info? 5).isSome = true := by kernel_rfl
  obtain ⟨i, hi⟩ := Option.isSome_iff_exists.1 his
  have hc : Tryd.prog.cellsOf 5 = 1 := by kernel_rfl
  have h := run_equalIn_array (P := Tryd.prog) (w := W) 9999 (t := 71) (e := 5) (n := 11) (stC f) (stC g) Tryd.underlying71 hi
  rw [hc] at h
  exact h.trans (eqS_items f g W _ (fun i hi => by simpa using hi))

set_option maxRecDepth 100000 in
set_option maxHeartbeats 2000000 in
theorem imIsRight_c (xs : List St) (ys : List Mv) (v u : Value) (w : World) (hx : RdS w v xs) (hy : RdM w u ys) :
    Calls Tryd.prog 16 #[v, u] w fun e w' => e = .returned (.bool (irB xs ys)) ∧ Below w.heap.size w w' := by
  have HSV := Lib.hid (fun W (hW : Below w.heap.size w W) => imSequenceValid_c xs v W (hx.below hW))
  by_cases h2 : MV ys
  · have HT := Lib.hid (tableOf_yes ys h2 u w hy)
    have HA := Lib.hid (fun W => atOnce_c (tabOf ys) nmT (src_okC h2) W)
    rcases Bool.eq_false_or_eq_true (svalid xs) with h1 | h1
    · have HIO := Lib.hid (fun W (hW : Below w.heap.size w W) => inOrder_c xs (fun k hk => svalid_at h1 k hk) v nmT W (hx.below hW))
      have HE := Lib.hid (irB_eq xs ys h1 h2)
      have HG : Hid (runS xs xs.length nmT = effG xs) := rfl
      have HW : Hid (wspS (effG xs) nmT = fun p => if p < 9 then effG xs p else nmT p) := rfl
      have H1 := Lib.hid h1
      clear h1 h2 hx hy
      have HWS := Lib.hid (fun W => withSpares_c (effG xs) nmT W)
      have HEQ := Lib.hid (fun W => eq_st (wspS (effG xs) nmT) (aoS (tabOf ys) nmT) W)
      have HE2 : Hid (((List.range 11).all fun p => decide (wspS (effG xs) nmT p = aoS (tabOf ys) nmT p)) = irB xs ys) := HE.out
      generalize tabOf ys = t at *
      generalize wspS (effG xs) nmT = f1 at *
      generalize aoS t nmT = f2 at *
      rw [HG.out] at HIO
      generalize effG xs = g at *
      go_enter Tryd.func16, Tryd.ntmps16
      go_wp2_with fail
      refine HT.out.mono ?_
      rintro e w1 ⟨rfl, hb1⟩
      have hs1 := hb1.size
      have k2 := At.new w1 67 (tabA t)
      have b2 : Below w.heap.size w (w1.alloc (.cells (tabA t) 67)) := hb1.alloc hs1 _
      go_wp2_with fail
      refine (HSV.out _ b2).mono ?_
      rintro e w3 ⟨rfl, hb3⟩
      rw [H1.out]
      have k3 := k2.keep hb3
      have b3 := b2.trans (hb3.mono b2.size)
      go_wp2_with fail
      refine (stateOfNames_c _).mono ?_
      rintro e w4 ⟨rfl, hb4⟩
      have k4 := k3.keep hb4
      have b4 := b3.trans (hb4.mono b3.size)
      have s4 := b4.size
      have z4 := At.new w4 71 zSA
      go_wp2_with (refine st_row rfl 71 (.tmp 7) (.tmp 20) rfl rfl w4.heap.size 71 zSA (stC nmT) z4 (by rfl) (by rfl) (by kernel_rfl) rfl (stC_one _) ?_; intro W5 k5 g5)
      have j5 := (k4.alloc (.cells zSA 71)).grown g5 (by have := k4.lt; simp; omega)
      have b5 : Below w.heap.size w W5 := (b4.alloc s4 _).trans (below_grown g5 (by simp; omega) (fun g hg => by cases hg; omega))
      have hC1 := At.ext (W := W5.drew) (B := W5.heap.size) k5 k5.lt
      have hC2 := At.ext (W := W5.drew) (B := W5.heap.size) j5 j5.lt
      have hIO : ∀ x : Ext W5.heap.size W5.drew, Calls Tryd.prog 42 #[stV nmT, v] x.val fun e w' => e = .returned (stV g) ∧ Below x.val.heap.size x.val w' := fun x => HIO.out x.val (b5.drew.trans (x.property.mono b5.size))
      refine wp_region_quiet (C := fun w' => ∃ x : Ext W5.heap.size W5.drew, w' = x.val) (by kernel_rfl) (by kernel_rfl) ⟨⟨_, Below.refl _ _⟩, rfl⟩ ?_
      simp only
      have hEQ := HEQ.out
      rw [HE2.out] at hEQ
      refine row_step rfl 71 (.tmp 7) rfl w4.heap.size 71 (stC nmT) (by rfl) hC1 11 5 Tryd.underlying71 (by kernel_rfl) ?_
      simp only [Act.put, List.setIfInBounds_toArray, List.set_cons_succ, List.set_cons_zero]
      go_big_quiet_step (fail)
      go_big_quiet_step ((exact ext_call _ (Nat.le_refl _) (hIO _)))
      refine row_step rfl 71 (.tmp 7) rfl w4.heap.size 71 (stC nmT) (by rfl) hC1 11 5 Tryd.underlying71 (by kernel_rfl) ?_
      simp only [Act.put, List.setIfInBounds_toArray, List.set_cons_succ, List.set_cons_zero]
      go_big_quiet_step ((exact ext_call _ (Nat.le_refl _) (HWS.out _)))
      refine row_step rfl 71 (.tmp 7) rfl w4.heap.size 71 (stC nmT) (by rfl) hC1 11 5 Tryd.underlying71 (by kernel_rfl) ?_
      simp only [Act.put, List.setIfInBounds_toArray, List.set_cons_succ, List.set_cons_zero]
      refine row_step rfl 67 (.tmp 5) rfl w1.heap.size 67 (tabA t) (by rfl) hC2 9 9 Tryd.underlying67 (by kernel_rfl) ?_
      simp only [Act.put, List.setIfInBounds_toArray, List.set_cons_succ, List.set_cons_zero]
      go_big_quiet_step ((exact ext_call _ (Nat.le_refl _) (HA.out _)))
      go_big_quiet_step (fail)
      go_big_quiet_step (fail)
      refine wpQuiet_nil ?_
      rintro w6 ⟨xw, rfl⟩
      have hb6 : Below w.heap.size w xw.val := b5.drew.trans (xw.property.mono b5.size)
      go_wp2
      go_ret
      exact ⟨rfl, hb6⟩
    · have HN : Hid (irB xs ys = false) := by show _ = _; rw [irB, effOk, h1]; rfl
      have H1 := Lib.hid h1
      clear h1 h2 hx hy HA
      generalize tabOf ys = t at *
      go_enter Tryd.func16, Tryd.ntmps16
      go_wp2_with fail
      refine HT.out.mono ?_
      rintro e w1 ⟨rfl, hb1⟩
      have hs1 := hb1.size
      have b2 : Below w.heap.size w (w1.alloc (.cells (tabA t) 67)) := hb1.alloc hs1 _
      go_wp2_with fail
      refine (HSV.out _ b2).mono ?_
      rintro e w3 ⟨rfl, hb3⟩
      rw [H1.out]
      have b3 := b2.trans (hb3.mono b2.size)
      go_wp2
      go_ret
      exact ⟨by rw [HN.out]; rfl, b3⟩
  · have HN : Hid (irB xs ys = false) := by
      have : mvalid ys = false := by simpa [mvalid] using h2
      show _ = _
      rw [irB, sameM, this, Bool.and_false, Bool.false_and, Bool.and_false]
    have HT := Lib.hid (tableOf_no ys h2 u w hy)
    clear h2 hx hy HSV
    go_enter Tryd.func16, Tryd.ntmps16
    go_wp2_with fail
    refine HT.out.mono ?_
    rintro e w1 ⟨rfl, hb1⟩
    have hs1 := hb1.size
    go_wp2
    go_ret
    exact ⟨by rw [HN.out]; rfl, by (repeat' (first | (with_reducible exact Below.refl _ _) | (with_reducible assumption) | (with_reducible refine Below.alloc ?_ ?_ _) | (with_reducible refine Below.drew ?_) | (with_reducible refine Below.setCell ?_ ?_ _) | (with_reducible exact Nat.le_refl _) | omega | ((repeat (first | rewrite [World.size_alloc] | rewrite [World.size_setCell] | rewrite [World.size_drew])); omega) | (simp; omega) | (simp; done)))⟩
end Go.Proofs.YtinggcjjdgibbabDoor
namespace Go.PM
open Go.RowKit
/-- the table with the sources of the first k places in it -/
def mix (f : Nat → ByteArray) (k : Nat) : Nat → ByteArray := fun q => if q < k then srcT f q else f q
theorem mix_zero (f : Nat → ByteArray) : mix f 0 = f := by funext q; simp [mix]
theorem mix_at (f : Nat → ByteArray) (k : Nat) : srcT (mix f k) k = srcT f k := by simp [srcT, mix]
theorem mix_set (f : Nat → ByteArray) (k : Nat) (hk : k < 9) : (tabA (mix f k)).setIfInBounds k (.string (srcT f k)) = tabA (mix f (k + 1)) := by
  have h := tabC_set (mix f k) k hk (srcT f k)
  have e : (fun q => if q = k then srcT f k else mix f k q) = mix f (k + 1) := by
    funext q
    by_cases hq : q = k
    · subst hq; simp [mix]
    · by_cases h2 : q < k
      · simp [mix, hq, h2, Nat.lt_succ_of_lt h2]
      · have : ¬ q < k + 1 := by omega
        simp [mix, hq, h2, this]
  rw [e] at h
  exact h
end Go.PM
namespace Go.Proofs.YtinggcjjdgibbabDoor
open Go.RowKit Go.PM
attribute [local go_sem] Oper.semAt_some

end Go.Proofs.YtinggcjjdgibbabDoor
namespace Go.Proofs.YtinggcjjdgibbabDoor
open Go.RowKit Go.PM
set_option maxRecDepth 100000 in
set_option maxHeartbeats 2000000 in
theorem eq_str (d : Nat) (a b : ByteArray) (W : World) : (Op.equalIn (d + 1) 9 (.string a) (.string b)).run Tryd.prog W = .ok (a == b) W := by
  simp [Op.equalIn, go_sem]
theorem eq_items (f g : Nat → ByteArray) (W : World) : ∀ is : List Nat, (∀ i ∈ is, i < 9) → (Op.eqItems 9999 9 1 (tabA f) (tabA g) is).run Tryd.prog W = .ok (is.all fun p => f p == g p) W := by
  intro is
  induction is with
  | nil => intro _; rfl
  | cons i is ih =>
    intro h
    have hi := h i (List.mem_cons_self ..)
    have h1 : (part 9 (tabA f) (i * 1)).run Tryd.prog W = .ok (.string (f i)) W := run_part_plain (P := Tryd.prog) W (by kernel_rfl) (by rw [Nat.mul_one]; exact tabC_at f i hi)
    have h2 : (part 9 (tabA g) (i * 1)).run Tryd.prog W = .ok (.string (g i)) W := run_part_plain (P := Tryd.prog) W (by kernel_rfl) (by rw [Nat.mul_one]; exact tabC_at g i hi)
    have h3 := eq_str 9998 (f i) (g i) W
    rw [Op.eqItems, Sem.run_bind, h1, Result.andThen_ok, Sem.run_bind, h2, Result.andThen_ok, Sem.run_bind, h3, Result.andThen_ok, List.all_cons]
    cases hb : (f i == g i)
    · rfl
    · rw [if_neg (by decide), ih (fun j hj => h j (List.mem_cons_of_mem _ hj)), Bool.true_and]
theorem eq_tab (f g : Nat → ByteArray) (W : World) : (Op.equal 67 (tabX f) (tabX g)).run Tryd.prog W = .ok ((List.range 9).all fun p => f p == g p) W := by
  have his : (Tryd.prog.info? 9).isSome = true := by kernel_rfl
  obtain ⟨i, hi⟩ := Option.isSome_iff_exists.1 his
  have hc : Tryd.prog.cellsOf 9 = 1 := by kernel_rfl
  have h := run_equalIn_array (P := Tryd.prog) (w := W) 9999 (t := 67) (e := 9) (n := 9) (tabA f) (tabA g) Tryd.underlying67 hi
  rw [hc] at h
  exact h.trans (eq_items f g W _ (fun i hi => by simpa using hi))
theorem beq_ba (a b : ByteArray) : (a == b) = decide (a = b) := by
  cases a with | mk a =>
  cases b with | mk b =>
  have h : ((ByteArray.mk a) == (ByteArray.mk b)) = (a == b) := rfl
  rw [h]
  by_cases e : a = b
  · subst e; simp
  · have : ¬ (ByteArray.mk a) = (ByteArray.mk b) := fun x => e (congrArg ByteArray.data x)
    simp [e]
theorem all_beq (f g : Nat → ByteArray) (l : List Nat) : (l.all fun p => f p == g p) = l.all fun p => decide (f p = g p) := by
  have : (fun p => f p == g p) = fun p => decide (f p = g p) := by funext p; exact beq_ba _ _
  rw [this]
end Go.Proofs.YtinggcjjdgibbabDoor
namespace Go.Proofs.YtinggcjjdgibbabDoor
open Go.RowKit Go.PM

set_option maxRecDepth 100000 in
set_option maxHeartbeats 1000000 in
/-- two moves as values are compared text by text -/
theorem eq_mv (a b c d : ByteArray) (W : World) : (Op.equalIn 10000 47 (.agg #[.string a, .string b]) (.agg #[.string c, .string d])).run Tryd.prog W = .ok (mvEq a b c d) W := by
  have hs : Tryd.prog.stoodInHeld 47 = false := by kernel_rfl
  have e1 : (a == c) = decide (a = c) := beq_ba _ _
  have e2 : (b == d) = decide (b = d) := beq_ba _ _
  have q1 := eq_str 9998 a c
  have q2 := eq_str 9998 b d
  rw [Op.equalIn]
  generalize hE : Op.equalIn 9999 = E at *
  simp only [mvEq]
  rw [e1] at q1
  rw [e2] at q2
  clear e1 e2 hE
  by_cases h1 : a = c
  · by_cases h2 : b = d
    · subst h1; subst h2
      simp at q1 q2
      simp [go_sem, hs, q1, q2]
    · subst h1
      simp [h2] at q1 q2
      simp [go_sem, hs, q1, q2, h2]
  · simp [h1] at q1
    simp [go_sem, hs, q1, h1]

end Go.Proofs.YtinggcjjdgibbabDoor
namespace Go.PM
def stpEq (a b : St) : Bool := decide (a = b)
theorem stpEq_no {a b : St} (h : (!stpEq a b) = true) : a ≠ b := by simpa [stpEq] using h
theorem stpEq_yes {a b : St} (h : (!stpEq a b) = false) : a = b := by simpa [stpEq] using h
end Go.PM
namespace Go.Proofs.YtinggcjjdgibbabDoor
open Go.RowKit Go.PM

set_option maxRecDepth 100000 in
set_option maxHeartbeats 1000000 in
theorem eq_mvD (d : Nat) (a b c e : ByteArray) (W : World) : (Op.equalIn (d + 2) 47 (.agg #[.string a, .string b]) (.agg #[.string c, .string e])).run Tryd.prog W = .ok (mvEq a b c e) W := by
  have hs : Tryd.prog.stoodInHeld 47 = false := by kernel_rfl
  have e1 : (a == c) = decide (a = c) := beq_ba _ _
  have e2 : (b == e) = decide (b = e) := beq_ba _ _
  have q1 := eq_str d a c
  have q2 := eq_str d b e
  rw [Op.equalIn]
  generalize hE : Op.equalIn (d + 1) = E at *
  simp only [mvEq]
  rw [e1] at q1
  rw [e2] at q2
  clear e1 e2 hE
  by_cases h1 : a = c
  · by_cases h2 : b = e
    · subst h1; subst h2
      simp at q1 q2
      simp [go_sem, hs, q1, q2]
    · subst h1
      simp [h2] at q1 q2
      simp [go_sem, hs, q1, q2, h2]
  · simp [h1] at q1
    simp [go_sem, hs, q1, h1]
theorem eq_i64 (d : Nat) (a b : Int) (W : World) : (Op.equalIn (d + 1) 3 (.int .i64 a) (.int .i64 b)).run Tryd.prog W = .ok (decide (a = b)) W := by
  have : (a == b) = decide (a = b) := by rw [Bool.eq_iff_iff, beq_iff_eq, decide_eq_true_eq]
  simp [Op.equalIn, go_sem, this]
set_option maxRecDepth 100000 in
set_option maxHeartbeats 1000000 in
/-- two steps as values are compared kind by kind and text by text -/
theorem eq_stp (x y : St) (W : World) : (Op.equalIn 10000 49 (.agg #[.int .i64 x.1, .string x.2.1, .string x.2.2]) (.agg #[.int .i64 y.1, .string y.2.1, .string y.2.2])).run Tryd.prog W = .ok (stpEq x y) W := by
  obtain ⟨k, a, b⟩ := x
  obtain ⟨l, c, e⟩ := y
  have hs : Tryd.prog.stoodInHeld 49 = false := by kernel_rfl
  have q0 := eq_i64 9998 k l
  have q1 := eq_mvD 9997 a b c e
  rw [Op.equalIn]
  generalize hE : Op.equalIn 9999 = E at *
  clear hE
  by_cases h1 : k = l
  · by_cases h2 : a = c ∧ b = e
    · obtain ⟨h2, h3⟩ := h2
      subst h1; subst h2; subst h3
      simp [mvEq] at q0 q1
      simp [go_sem, hs, q0, q1, stpEq]
    · subst h1
      have h3 : mvEq a b c e = false := by unfold mvEq; exact decide_eq_false h2
      have h4 : stpEq (k, a, b) (k, c, e) = false := by
        unfold stpEq
        rw [decide_eq_false_iff_not]
        intro e; cases e; exact h2 ⟨rfl, rfl⟩
      rw [h3] at q1
      simp at q0
      simp [go_sem, hs, q0, q1, h4]
  · have h4 : stpEq (k, a, b) (l, c, e) = false := by
      unfold stpEq
      rw [decide_eq_false_iff_not]
      intro e; cases e; exact h1 rfl
    simp [h1] at q0
    simp [go_sem, hs, q0, h4]

set_option maxRecDepth 100000 in
set_option maxHeartbeats 1600000 in
theorem pmSteps_c (xs ys : List St) (v u : Value) (w : World) (hx : RdS w v xs) (hy : RdS w u ys) :
    Calls Tryd.prog 12 #[v, u] w fun e w' => e = .returned (.bool (decide (xs = ys))) ∧ Below w.heap.size w w' := by
  obtain ⟨A, cap, rfl, hn, hc, hcell⟩ := hx.open
  obtain ⟨A', cap', rfl, hn', hc', hcell'⟩ := hy.open
  clear hx hy
  rcases Nat.lt_or_ge ys.length xs.length with hle | hle
  · have hm : min (xs.length : Int) (ys.length : Int) = ys.length := by omega
    have HLE := Lib.hid hle
    clear hle
    go_enter Tryd.func12, Tryd.ntmps12
    go_wp2
    go_loopw [11] (fun i wr => ∃ (k : Nat), k ≤ ys.length ∧ i = .int .i64 k ∧ Hid (xs.take k = ys.take k) ∧ Below w.heap.size w wr) (fun i _ => ys.length - (intOf i).toNat)
    case atStart => exact ⟨0, by omega, rfl, by show _ = _; simp, Below.refl _ _⟩
    case round =>
      obtain ⟨k, hk, rfl, ht, hb⟩ := hrel
      by_cases hlt : k < ys.length
      · have hlt1 : k < xs.length := by have := HLE.out; omega
        have hlt2 : k < ys.length := by have := HLE.out; omega
        obtain ⟨b, off, rfl, hbl, hc0, hc1, hc2⟩ := hcell k hlt1
        obtain ⟨b', off', rfl, hbl', hc0', hc1', hc2'⟩ := hcell' k hlt2
        have hd0 := (hb.cell (p := ⟨b, off + k * 3, none⟩) hbl).trans hc0
        have hd1 := (hb.cell (p := ⟨b, off + k * 3 + 1, none⟩) hbl).trans hc1
        have hd2 := (hb.cell (p := ⟨b, off + k * 3 + 2, none⟩) hbl).trans hc2
        have hd5 := (hb.cell (p := ⟨b', off' + k * 3, none⟩) hbl').trans hc0'
        have hd3 := (hb.cell (p := ⟨b', off' + k * 3 + 1, none⟩) hbl').trans hc1'
        have hd4 := (hb.cell (p := ⟨b', off' + k * 3 + 2, none⟩) hbl').trans hc2'
        clear hc0 hc1 hc2 hcell hc0' hc1' hc2' hcell'
        have i1 : (k : Int) < (ys.length : Int) := by omega
        go_wp2
        have hx0 : ∀ x : Ext w.heap.size wr, x.val.cell? ⟨b, off + k * 3, none⟩ = some (.int .i64 xs[k].1) := fun x => (x.property.cell (p := ⟨b, _, none⟩) hbl).trans hd0
        have hx1 : ∀ x : Ext w.heap.size wr, x.val.cell? ⟨b, off + k * 3 + 1, none⟩ = some (.string xs[k].2.1) := fun x => (x.property.cell (p := ⟨b, _, none⟩) hbl).trans hd1
        have hx2 : ∀ x : Ext w.heap.size wr, x.val.cell? ⟨b, off + k * 3 + 2, none⟩ = some (.string xs[k].2.2) := fun x => (x.property.cell (p := ⟨b, _, none⟩) hbl).trans hd2
        have hx5 : ∀ x : Ext w.heap.size wr, x.val.cell? ⟨b', off' + k * 3, none⟩ = some (.int .i64 ys[k].1) := fun x => (x.property.cell (p := ⟨b', _, none⟩) hbl').trans hd5
        have hx3 : ∀ x : Ext w.heap.size wr, x.val.cell? ⟨b', off' + k * 3 + 1, none⟩ = some (.string ys[k].2.1) := fun x => (x.property.cell (p := ⟨b', _, none⟩) hbl').trans hd3
        have hx4 : ∀ x : Ext w.heap.size wr, x.val.cell? ⟨b', off' + k * 3 + 2, none⟩ = some (.string ys[k].2.2) := fun x => (x.property.cell (p := ⟨b', _, none⟩) hbl').trans hd4
        clear hd0 hd1 hd2 hd3 hd4 hd5
        have i0 : (0 : Int) ≤ (k : Int) := by omega
        have i2 : (k : Int) < xs.length := by omega
        have i3 : (k : Int) < ys.length := by omega
        have hE := fun W => eq_stp xs[k] ys[k] W
        refine wp_region_ext w.heap.size (by kernel_rfl) (by kernel_rfl) ?_
        repeat (go_big_quiet_step (fail))
        refine wpQuiet_nil ?_
        intro w2 hw'
        obtain ⟨xw, hxw⟩ := hw'
        have hb2 := xw.property
        rw [← hxw] at hb2
        clear hxw xw
        clear hx0 hx1 hx2 hx3 hx4 hx5 hE
        go_wp2
        · have h : (!stpEq xs[k] ys[k]) = true := by assumption
          go_ret
          refine ⟨?_, hb.trans hb2⟩
          have : ¬ xs = ys := by
            intro e; subst e; exact stpEq_no h rfl
          simp [this]
        · have h : (!stpEq xs[k] ys[k]) = false := by assumption
          go_roundw
          case rel =>
            refine ⟨k + 1, by omega, by go_num, ?_, hb.trans hb2⟩
            show _ = _
            rw [take_snoc xs k hlt1, take_snoc ys k hlt2, ht.out, stpEq_yes h]
          case measure => simp [intOf]; omega
      · have hk' : k = ys.length := by omega
        have h2 := ht.out
        have h3 := HLE.out
        rw [hk'] at h2
        have HD : Hid (((xs.length : Int) == (ys.length : Int)) = decide (xs = ys)) := by
          show _ = _
          by_cases he : xs.length = ys.length
          · rw [List.take_of_length_le (by omega), List.take_of_length_le (by omega)] at h2
            rw [h2]; simp
          · have h4 : ¬ xs = ys := fun e => he (by rw [e])
            have h5 : ¬ ((xs.length : Int) = (ys.length : Int)) := by omega
            rw [decide_eq_false h4]
            simpa using h5
        clear h2 h3 ht
        go_wp2
        go_ret
        exact ⟨by rw [← HD.out]; rfl, hb⟩
  · have hm : min (xs.length : Int) (ys.length : Int) = xs.length := by omega
    have HLE := Lib.hid hle
    clear hle
    go_enter Tryd.func12, Tryd.ntmps12
    go_wp2
    go_loopw [11] (fun i wr => ∃ (k : Nat), k ≤ xs.length ∧ i = .int .i64 k ∧ Hid (xs.take k = ys.take k) ∧ Below w.heap.size w wr) (fun i _ => xs.length - (intOf i).toNat)
    case atStart => exact ⟨0, by omega, rfl, by show _ = _; simp, Below.refl _ _⟩
    case round =>
      obtain ⟨k, hk, rfl, ht, hb⟩ := hrel
      by_cases hlt : k < xs.length
      · have hlt1 : k < xs.length := by have := HLE.out; omega
        have hlt2 : k < ys.length := by have := HLE.out; omega
        obtain ⟨b, off, rfl, hbl, hc0, hc1, hc2⟩ := hcell k hlt1
        obtain ⟨b', off', rfl, hbl', hc0', hc1', hc2'⟩ := hcell' k hlt2
        have hd0 := (hb.cell (p := ⟨b, off + k * 3, none⟩) hbl).trans hc0
        have hd1 := (hb.cell (p := ⟨b, off + k * 3 + 1, none⟩) hbl).trans hc1
        have hd2 := (hb.cell (p := ⟨b, off + k * 3 + 2, none⟩) hbl).trans hc2
        have hd5 := (hb.cell (p := ⟨b', off' + k * 3, none⟩) hbl').trans hc0'
        have hd3 := (hb.cell (p := ⟨b', off' + k * 3 + 1, none⟩) hbl').trans hc1'
        have hd4 := (hb.cell (p := ⟨b', off' + k * 3 + 2, none⟩) hbl').trans hc2'
        clear hc0 hc1 hc2 hcell hc0' hc1' hc2' hcell'
        have i1 : (k : Int) < (xs.length : Int) := by omega
        go_wp2
        have hx0 : ∀ x : Ext w.heap.size wr, x.val.cell? ⟨b, off + k * 3, none⟩ = some (.int .i64 xs[k].1) := fun x => (x.property.cell (p := ⟨b, _, none⟩) hbl).trans hd0
        have hx1 : ∀ x : Ext w.heap.size wr, x.val.cell? ⟨b, off + k * 3 + 1, none⟩ = some (.string xs[k].2.1) := fun x => (x.property.cell (p := ⟨b, _, none⟩) hbl).trans hd1
        have hx2 : ∀ x : Ext w.heap.size wr, x.val.cell? ⟨b, off + k * 3 + 2, none⟩ = some (.string xs[k].2.2) := fun x => (x.property.cell (p := ⟨b, _, none⟩) hbl).trans hd2
        have hx5 : ∀ x : Ext w.heap.size wr, x.val.cell? ⟨b', off' + k * 3, none⟩ = some (.int .i64 ys[k].1) := fun x => (x.property.cell (p := ⟨b', _, none⟩) hbl').trans hd5
        have hx3 : ∀ x : Ext w.heap.size wr, x.val.cell? ⟨b', off' + k * 3 + 1, none⟩ = some (.string ys[k].2.1) := fun x => (x.property.cell (p := ⟨b', _, none⟩) hbl').trans hd3
        have hx4 : ∀ x : Ext w.heap.size wr, x.val.cell? ⟨b', off' + k * 3 + 2, none⟩ = some (.string ys[k].2.2) := fun x => (x.property.cell (p := ⟨b', _, none⟩) hbl').trans hd4
        clear hd0 hd1 hd2 hd3 hd4 hd5
        have i0 : (0 : Int) ≤ (k : Int) := by omega
        have i2 : (k : Int) < xs.length := by omega
        have i3 : (k : Int) < ys.length := by omega
        have hE := fun W => eq_stp xs[k] ys[k] W
        refine wp_region_ext w.heap.size (by kernel_rfl) (by kernel_rfl) ?_
        repeat (go_big_quiet_step (fail))
        refine wpQuiet_nil ?_
        intro w2 hw'
        obtain ⟨xw, hxw⟩ := hw'
        have hb2 := xw.property
        rw [← hxw] at hb2
        clear hxw xw
        clear hx0 hx1 hx2 hx3 hx4 hx5 hE
        go_wp2
        · have h : (!stpEq xs[k] ys[k]) = true := by assumption
          go_ret
          refine ⟨?_, hb.trans hb2⟩
          have : ¬ xs = ys := by
            intro e; subst e; exact stpEq_no h rfl
          simp [this]
        · have h : (!stpEq xs[k] ys[k]) = false := by assumption
          go_roundw
          case rel =>
            refine ⟨k + 1, by omega, by go_num, ?_, hb.trans hb2⟩
            show _ = _
            rw [take_snoc xs k hlt1, take_snoc ys k hlt2, ht.out, stpEq_yes h]
          case measure => simp [intOf]; omega
      · have hk' : k = xs.length := by omega
        have h2 := ht.out
        have h3 := HLE.out
        rw [hk'] at h2
        have HD : Hid (((xs.length : Int) == (ys.length : Int)) = decide (xs = ys)) := by
          show _ = _
          by_cases he : xs.length = ys.length
          · rw [List.take_of_length_le (by omega), List.take_of_length_le (by omega)] at h2
            rw [h2]; simp
          · have h4 : ¬ xs = ys := fun e => he (by rw [e])
            have h5 : ¬ ((xs.length : Int) = (ys.length : Int)) := by omega
            rw [decide_eq_false h4]
            simpa using h5
        clear h2 h3 ht
        go_wp2
        go_ret
        exact ⟨by rw [← HD.out]; rfl, hb⟩
end Go.Proofs.YtinggcjjdgibbabDoor
namespace Go.Proofs.YtinggcjjdgibbabDoor
open Go.RowKit Go.PM
open Go.ChangeShapes Go.WideShapes Go.Deep in
set_option maxRecDepth 100000 in
theorem open_bytes {H : Type} {enc : TypeId × Value → H} {W : World} {base fuel : Nat} {spare : Nat → Bool} {held : Bool} {a : Option Addr} {n c : Nat} {x : DataW H × List MemPlace}
    (h : DataW.trod enc Tryd.prog W base spare held fuel 22 [.slice a n c] = some x) : RdB W W.heap.size (.slice a n c) n := by
  rcases open_slice Tryd.underlying22 h with ⟨hcs, _⟩ | ⟨ad, len, cap, m, k, D, Pl, hcs, hb, hl, hm, hmm, hx, hi⟩
  · simp at hcs
    obtain ⟨rfl, rfl, rfl⟩ := hcs
    exact ⟨none, 0, rfl, by omega, by omega, fun k hk => absurd hk (Nat.not_lt_zero k)⟩
  · simp at hcs
    obtain ⟨rfl, rfl, rfl⟩ := hcs
    have hC : Tryd.prog.cellsOf 5 = 1 := by kernel_rfl
    have hml : n ≤ m := by rw [hmm]; split <;> omega
    have hM : maxLen = 9223372036854775807 := rfl
    have hcell : ∀ i, i < n → ∃ kk, W.cell? (ad.add i) = some (.int .u8 kk) ∧ 0 ≤ kk ∧ kk ≤ 255 := fun i hin => by
      obtain ⟨cs', hc', ht⟩ := hi i (by omega)
      rw [hC] at hc'
      obtain ⟨kk, hk, _, hwf⟩ := DataW.trod_int Tryd.underlying5 ht
      subst hk
      obtain ⟨_, hcl, hat⟩ := World.cells?_some hc'
      have h1 := hat 0 (by omega)
      refine ⟨kk, by simpa [Addr.add] using h1, ?_⟩
      simpa [Lit.wf, IntKind.min, IntKind.max, IntKind.signed, IntKind.bits] using hwf
    clear hi hx h
    refine ⟨some ad, c, rfl, by omega, by omega, fun i hin => ?_⟩
    obtain ⟨b, off, spot⟩ := ad
    have hs : spot = none := by
      obtain ⟨_, h0, _⟩ := hcell 0 (by omega)
      have := World.cell?_spot h0
      simpa [Addr.add] using this
    subst hs
    obtain ⟨kk, h1, hw1, hw2⟩ := hcell i hin
    have hadd : (Addr.mk b off none).add i = ⟨b, off + i, none⟩ := by
      unfold Addr.add; split
      · next h => subst h; rfl
      · rfl
    rw [hadd] at h1
    have hb : b < W.heap.size := by
      rcases Nat.lt_or_ge b W.heap.size with hlt | hge
      · exact hlt
      · simp [World.cell?, Array.getElem?_eq_none hge] at h1
    exact ⟨b, off, kk, rfl, hb, hb, h1, hw1, by omega⟩
end Go.Proofs.YtinggcjjdgibbabDoor
namespace Go.Proofs.YtinggcjjdgibbabDoor
open Go.RowKit Go.PM
set_option maxRecDepth 100000 in
set_option maxHeartbeats 3200000 in
theorem exSequenceText (w : World) (v0 : Value) (n0 : Nat) (hv : RdB w w.heap.size v0 n0) (v1 : Value) (n1 : Nat) (hv1 : RdB w w.heap.size v1 n1) (hG : Sg w) :
    Calls Tryd.prog 3 #[v0, v1] w fun e w' => e = .returned (.bool true) ∧ Below w.heap.size w w' := by
  have hv0 := hv
  have hv10 := hv1
  obtain ⟨A, cap, rfl, hc, hn, _⟩ := hv
  obtain ⟨A1, cap1, rfl, hc1, hn1, _⟩ := hv1
  by_cases hbig : 1048576 < n0
  · have t : decide ((n0 : Int) > 1048576) = true := by simp; omega
    go_enter Tryd.func3, Tryd.ntmps3
    go_wp2
    go_ret
    exact ⟨rfl, Below.refl _ _⟩
  have t : decide ((n0 : Int) > 1048576) = false := by simp; omega
  by_cases hbig1 : 1048576 < n1
  · have t1 : decide ((n1 : Int) > 1048576) = true := by simp; omega
    go_enter Tryd.func3, Tryd.ntmps3
    go_wp2
    go_ret
    exact ⟨rfl, Below.refl _ _⟩
  have t1 : decide ((n1 : Int) > 1048576) = false := by simp; omega
  have HD := Lib.hid (drawFormatSequence_c w _ n0 hv0)
  have HG := Lib.hid hG
  clear hv0 hG
  go_enter Tryd.func3, Tryd.ntmps3
  go_wp2_with fail
  refine HD.out.mono ?_
  rintro e w1 ⟨u, xs, rfl, ho, hsh, b1⟩
  have hs1 := b1.size
  have R1 : RdS w1 u xs := Rd.of_own ho
  have hfs := sfmtB_size xs
  have hpf := sq_sfmt xs
  have HPF := Lib.hid hpf
  clear HD ho hsh hpf
  go_wp2_with fail
  refine (imFormatSequence_c xs u _ R1 (HG.out.below b1)).mono ?_
  rintro e w2 ⟨rfl, h2⟩
  have b2 := b1.trans (h2.mono hs1)
  have hs2 := b2.size
  have R2 := R1.below h2
  have e1 : ((sfmtB xs).toList != (sfmtB xs).toList) = false := by simp
  go_wp2_with fail
  refine (imParseSequence_c (sfmtB xs) _ (by omega) (HG.out.below b2)).mono ?_
  rintro e w3 ⟨v, rfl, ho3, h3⟩
  have b3 := b2.trans (h3.mono hs2)
  have hs3 := b3.size
  have R3 := R2.below h3
  have Q3 : RdS w3 v (sqS (sfmtB xs)) := Rd.of_own ho3
  rw [HPF.out.1]
  clear R1 R2 h2 h3 b1 b2 ho3
  have HV0 := Lib.hid hv10
  clear hv10
  have HSF := Lib.hid (fun W (R : RdS W u xs) => spFormatSequence_c xs u W R)
  have HIV := Lib.hid (fun W (R : RdS W u xs) => imSequenceValid_c xs u W R)
  have HSV := Lib.hid (fun W (R : RdS W u xs) => spSequenceValid_c xs u W R)
  have HEQ : Hid (svalid xs = true → ∀ W, RdS W v (sqS (sfmtB xs)) → RdS W u xs → Calls Tryd.prog 12 #[v, u] W fun e w' => e = .returned (.bool true) ∧ Below W.heap.size W w') := fun h W P R => by
    rw [HPF.out.2 h] at P
    have := pmSteps_c xs xs v u W P R
    rwa [show decide (xs = xs) = true by simp] at this
  clear HPF hfs
  generalize sqS (sfmtB xs) = zs0 at *
  generalize sfmtB xs = tx at *
  generalize svalid xs = mv at *
  cases mv
  case false =>
    go_wp2_with fail
    refine (HSF.out _ R3).mono ?_
    rintro e w4 ⟨rfl, h4⟩
    have b4 := b3.trans (h4.mono hs3)
    have hs4 := b4.size
    have R4 := R3.below h4
    have Q4 := Q3.below h4
    clear h4 b3 R3 Q3
    go_wp2_with fail
    refine (HIV.out _ R4).mono ?_
    rintro e w5 ⟨rfl, h5⟩
    have b5 := b4.trans (h5.mono hs4)
    have hs5 := b5.size
    have R5 := R4.below h5
    have Q5 := Q4.below h5
    clear h5 b4 R4 Q4
    go_wp2_with fail
    refine (HSV.out _ R5).mono ?_
    rintro e w6 ⟨rfl, h6⟩
    have b6 := b5.trans (h6.mono hs5)
    have hs6 := b6.size
    have R6 := R5.below h6
    have Q6 := Q5.below h6
    clear h6 b5 R5 Q5
    go_wp2_with fail
    refine (HIV.out _ R6).mono ?_
    rintro e w8 ⟨rfl, h8⟩
    have b8 := b6.trans (h8.mono hs6)
    have hs8 := b8.size
    have R8 := R6.below h8
    have Q8 := Q6.below h8
    clear h8 b6 R6 Q6
    clear R8 Q8
    have HW := Lib.hid (drawParseSequence_c w8 _ n1 (HV0.out.now b8))
    go_wp2_with fail
    refine HW.out.mono ?_
    rintro e w9 ⟨s, rfl, hz9, h9⟩
    have b9 := b8.trans (h9.mono hs8)
    have hs9 := b9.size
    clear h9 b8 HW
    have HFP : Hid (sqOk s = true → ∀ W z, Below w.heap.size w W → RdS W z (sqS s) → Calls Tryd.prog 7 #[z] W fun e w' => e = .returned (.string s) ∧ Below W.heap.size W w') := fun h W z hW R => by
      have := imFormatSequence_c (sqS s) z W R (HG.out.below hW)
      rwa [sfmt_sq h] at this
    have HI := Lib.hid (imParseSequence_c s w9 (by omega) (HG.out.below b9))
    have HS := Lib.hid (fun W => spParseSequence_c s W (by omega))
    have HE := Lib.hid (fun W z y (P : RdS W z (sqS s)) (R : RdS W y (sqS s)) => (pmSteps_c (sqS s) (sqS s) z y W P R))
    have e9 : (s.toList == s.toList) = true := by simp
    simp only at HE
    generalize sqS s = ps at *
    generalize sqOk s = po at *
    go_wp2_with fail
    refine HI.out.mono ?_
    rintro e wa ⟨va, rfl, oa, ha⟩
    have ba := b9.trans (ha.mono hs9)
    have hsa := ba.size
    have Pa : RdS wa va ps := Rd.of_own oa
    clear ha b9 HI oa
    go_wp2_with fail
    refine (HS.out _).mono ?_
    rintro e wb ⟨vb, rfl, ob, hb⟩
    have bb := ba.trans (hb.mono hsa)
    have hsb := bb.size
    have Pb := Pa.below hb
    have Qb : RdS wb vb ps := Rd.of_own ob
    clear hb ba HS ob Pa
    have HX := Lib.hid (drawIsRight_c wb _ n1 (HV0.out.now bb))
    go_wp2_with fail
    refine HX.out.mono ?_
    rintro e wx ⟨ux, yx, zs, qs, rfl, oux, oyx, _, hqs, hx⟩
    have bx := bb.trans (hx.mono hsb)
    have hsx := bx.size
    have Px := Pb.below hx
    have Qx := Qb.below hx
    have Ux : RdS wx ux zs := Rd.of_own oux
    have Yx : RdM wx yx qs := Rd.of_own oyx
    have HR1 := Lib.hid (fun W (P : RdS W ux zs) (Q : RdM W yx qs) => imIsRight_c zs qs ux yx W P Q)
    have HR2 := Lib.hid (fun W (P : RdS W ux zs) (Q : RdM W yx qs) => spIsRight_c zs qs ux yx W P Q (fun m hm => by have := hqs.2 m hm; omega) (by omega))
    clear hx bb HX oux oyx hqs Pb Qb
    generalize irB zs qs = ir at *
    go_wp2_with fail
    refine (HE.out _ _ _ Px Qx).mono ?_
    rintro e wc ⟨rfl, hc⟩
    have bc := bx.trans (hc.mono hsx)
    have hsc := bc.size
    have Pc := Px.below hc
    have Uc := Ux.below hc
    have Yc := Yx.below hc
    clear hc bx Px Qx Ux Yx
    cases po
    case false =>
      go_wp2_with fail
      refine (HR1.out _ Uc Yc).mono ?_
      rintro e wf ⟨rfl, hf⟩
      have bf := bc.trans (hf.mono hsc)
      have hsf := bf.size
      have Uf := Uc.below hf
      have Yf := Yc.below hf
      clear hf bc
      go_wp2_with fail
      refine (HR2.out _ Uf Yf).mono ?_
      rintro e wg ⟨rfl, hg⟩
      have bg := bf.trans (hg.mono hsf)
      clear hg bf
      cases ir <;>
      · go_wp2
        go_ret
        exact ⟨rfl, bg⟩
    case true =>
      go_wp2_with fail
      refine (HFP.out trivial _ _ bc Pc).mono ?_
      rintro e wd ⟨rfl, hd⟩
      have bd := bc.trans (hd.mono hsc)
      have hsd := bd.size
      have Ud := Uc.below hd
      have Yd := Yc.below hd
      clear hd bc Pc Uc Yc
      go_wp2_with fail
      refine (HR1.out _ Ud Yd).mono ?_
      rintro e wf ⟨rfl, hf⟩
      have bf := bd.trans (hf.mono hsd)
      have hsf := bf.size
      have Uf := Ud.below hf
      have Yf := Yd.below hf
      clear hf bd
      go_wp2_with fail
      refine (HR2.out _ Uf Yf).mono ?_
      rintro e wg ⟨rfl, hg⟩
      have bg := bf.trans (hg.mono hsf)
      clear hg bf
      cases ir <;>
      · go_wp2
        go_ret
        exact ⟨rfl, bg⟩
  case true =>
    go_wp2_with fail
    refine (HSF.out _ R3).mono ?_
    rintro e w4 ⟨rfl, h4⟩
    have b4 := b3.trans (h4.mono hs3)
    have hs4 := b4.size
    have R4 := R3.below h4
    have Q4 := Q3.below h4
    clear h4 b3 R3 Q3
    go_wp2_with fail
    refine (HIV.out _ R4).mono ?_
    rintro e w5 ⟨rfl, h5⟩
    have b5 := b4.trans (h5.mono hs4)
    have hs5 := b5.size
    have R5 := R4.below h5
    have Q5 := Q4.below h5
    clear h5 b4 R4 Q4
    go_wp2_with fail
    refine (HSV.out _ R5).mono ?_
    rintro e w6 ⟨rfl, h6⟩
    have b6 := b5.trans (h6.mono hs5)
    have hs6 := b6.size
    have R6 := R5.below h6
    have Q6 := Q5.below h6
    clear h6 b5 R5 Q5
    go_wp2_with fail
    refine (HIV.out _ R6).mono ?_
    rintro e w7 ⟨rfl, h7⟩
    have b7 := b6.trans (h7.mono hs6)
    have hs7 := b7.size
    have R7 := R6.below h7
    have Q7 := Q6.below h7
    clear h7 b6 R6 Q6
    go_wp2_with fail
    refine (HEQ.out trivial _ Q7 R7).mono ?_
    rintro e w8 ⟨rfl, h8⟩
    have b8 := b7.trans (h8.mono hs7)
    have hs8 := b8.size
    clear h8 b7 R7 Q7
    have HW := Lib.hid (drawParseSequence_c w8 _ n1 (HV0.out.now b8))
    go_wp2_with fail
    refine HW.out.mono ?_
    rintro e w9 ⟨s, rfl, hz9, h9⟩
    have b9 := b8.trans (h9.mono hs8)
    have hs9 := b9.size
    clear h9 b8 HW
    have HFP : Hid (sqOk s = true → ∀ W z, Below w.heap.size w W → RdS W z (sqS s) → Calls Tryd.prog 7 #[z] W fun e w' => e = .returned (.string s) ∧ Below W.heap.size W w') := fun h W z hW R => by
      have := imFormatSequence_c (sqS s) z W R (HG.out.below hW)
      rwa [sfmt_sq h] at this
    have HI := Lib.hid (imParseSequence_c s w9 (by omega) (HG.out.below b9))
    have HS := Lib.hid (fun W => spParseSequence_c s W (by omega))
    have HE := Lib.hid (fun W z y (P : RdS W z (sqS s)) (R : RdS W y (sqS s)) => (pmSteps_c (sqS s) (sqS s) z y W P R))
    have e9 : (s.toList == s.toList) = true := by simp
    simp only at HE
    generalize sqS s = ps at *
    generalize sqOk s = po at *
    go_wp2_with fail
    refine HI.out.mono ?_
    rintro e wa ⟨va, rfl, oa, ha⟩
    have ba := b9.trans (ha.mono hs9)
    have hsa := ba.size
    have Pa : RdS wa va ps := Rd.of_own oa
    clear ha b9 HI oa
    go_wp2_with fail
    refine (HS.out _).mono ?_
    rintro e wb ⟨vb, rfl, ob, hb⟩
    have bb := ba.trans (hb.mono hsa)
    have hsb := bb.size
    have Pb := Pa.below hb
    have Qb : RdS wb vb ps := Rd.of_own ob
    clear hb ba HS ob Pa
    have HX := Lib.hid (drawIsRight_c wb _ n1 (HV0.out.now bb))
    go_wp2_with fail
    refine HX.out.mono ?_
    rintro e wx ⟨ux, yx, zs, qs, rfl, oux, oyx, _, hqs, hx⟩
    have bx := bb.trans (hx.mono hsb)
    have hsx := bx.size
    have Px := Pb.below hx
    have Qx := Qb.below hx
    have Ux : RdS wx ux zs := Rd.of_own oux
    have Yx : RdM wx yx qs := Rd.of_own oyx
    have HR1 := Lib.hid (fun W (P : RdS W ux zs) (Q : RdM W yx qs) => imIsRight_c zs qs ux yx W P Q)
    have HR2 := Lib.hid (fun W (P : RdS W ux zs) (Q : RdM W yx qs) => spIsRight_c zs qs ux yx W P Q (fun m hm => by have := hqs.2 m hm; omega) (by omega))
    clear hx bb HX oux oyx hqs Pb Qb
    generalize irB zs qs = ir at *
    go_wp2_with fail
    refine (HE.out _ _ _ Px Qx).mono ?_
    rintro e wc ⟨rfl, hc⟩
    have bc := bx.trans (hc.mono hsx)
    have hsc := bc.size
    have Pc := Px.below hc
    have Uc := Ux.below hc
    have Yc := Yx.below hc
    clear hc bx Px Qx Ux Yx
    cases po
    case false =>
      go_wp2_with fail
      refine (HR1.out _ Uc Yc).mono ?_
      rintro e wf ⟨rfl, hf⟩
      have bf := bc.trans (hf.mono hsc)
      have hsf := bf.size
      have Uf := Uc.below hf
      have Yf := Yc.below hf
      clear hf bc
      go_wp2_with fail
      refine (HR2.out _ Uf Yf).mono ?_
      rintro e wg ⟨rfl, hg⟩
      have bg := bf.trans (hg.mono hsf)
      clear hg bf
      cases ir <;>
      · go_wp2
        go_ret
        exact ⟨rfl, bg⟩
    case true =>
      go_wp2_with fail
      refine (HFP.out trivial _ _ bc Pc).mono ?_
      rintro e wd ⟨rfl, hd⟩
      have bd := bc.trans (hd.mono hsc)
      have hsd := bd.size
      have Ud := Uc.below hd
      have Yd := Yc.below hd
      clear hd bc Pc Uc Yc
      go_wp2_with fail
      refine (HR1.out _ Ud Yd).mono ?_
      rintro e wf ⟨rfl, hf⟩
      have bf := bd.trans (hf.mono hsd)
      have hsf := bf.size
      have Uf := Ud.below hf
      have Yf := Yd.below hf
      clear hf bd
      go_wp2_with fail
      refine (HR2.out _ Uf Yf).mono ?_
      rintro e wg ⟨rfl, hg⟩
      have bg := bf.trans (hg.mono hsf)
      clear hg bf
      cases ir <;>
      · go_wp2
        go_ret
        exact ⟨rfl, bg⟩

namespace fnSequenceText
open Go.RowKit Go.PM Go.ChangeShapes Go.WideShapes Go.ChangeAt
open Go.ChangeMaps (open_string shut_string)
set_option maxRecDepth 100000 in
theorem lifted (os : Os) (started : os.Started) (H : Type) (enc : TypeId × Value → H) :
    ReturnsInHanded {} Tryd.checked os 3 .any (fun w args => (Rows.fnSequenceTextSpec.pre enc Tryd.prog Tryd.f3 [] false w args ∧ laidMetH Tryd.prog laidL w) ∧ sizedMet enc Tryd.prog Tryd.f3 (OpenSpec.ofChange Rows.fnSequenceTextSpec) false w args)
      (Rows.fnSequenceTextSpec.post enc Tryd.prog Tryd.f3 false true false false) := by
  refine returnsInHanded_of_change_and (C := Tryd.checked) (X := fun w _ => laidMetH Tryd.prog laidL w) (fun _ _ _ hh h => h.of_heap hh) own started (by kernel_rfl) Tryd.func3
    (ChangeSpec.witness_at (enc := enc) (C := Tryd.checked) (os := os) (X := fun w _ => laidMetH Tryd.prog laidL w) false (laidWorld os) #[.slice none 0 0, .slice none 0 0] 8 rfl (by kernel_rfl) (by kernel_rfl) (by kernel_rfl) (by kernel_rfl) (by kernel_rfl) (laidWorld_met os _)) ?_
  intro W base args ds gs before hval0 hW _ _ hL _
  have hval : ∀ (j : Nat) t v, Tryd.f3.params[j]? = some t → args[j]? = some v → Value.okWide Tryd.prog W .any base t v := hval0
  have hW' := hW
  obtain ⟨p, q, hA0, hV0, rfl, hfz, hnd⟩ := hW
  have hA : DataW.TrodAll enc Tryd.prog W 0 (fun _ => true) true Tryd.f3.params.toList args.toList ds p := hA0
  have hV : DataW.TrodVars enc Tryd.prog W (fun _ => true) ["loop.example/parallelmoves/impl.stepSigns"] gs q := hV0
  rw [Tryd.params3] at hA hval
  obtain ⟨v0, vs0, d0, ds0, p0, q0, hargs, rfl, rfl, h0, r0⟩ := trodAll_cons hA
  obtain ⟨v1, vs1, d1, ds1, p1, q1, rfl, rfl, rfl, h1, r1⟩ := trodAll_cons r0
  obtain ⟨rfl, rfl, rfl⟩ := trodAll_nil r1
  obtain rfl : args = #[v0, v1] := by cases args; simp_all
  obtain ⟨g1, q1, rfl, hG, hvars⟩ := signs_open hL hV
  have k0 := h0
  have lt0 : ∀ x ∈ p0, x.block < W.heap.size := by obtain ⟨m, hm⟩ := k0; exact DataW.trod_lt m _ _ _ hm
  have k1 := h1
  have lt1 : ∀ x ∈ p1, x.block < W.heap.size := by obtain ⟨m, hm⟩ := k1; exact DataW.trod_lt m _ _ _ hm
  obtain ⟨a0, len0, cap0, rfl⟩ := okWide_slice Tryd.underlying22 (hval 0 22 v0 rfl rfl)
  have hx0 : RdB W W.heap.size (.slice a0 len0 cap0) len0 := by obtain ⟨fuel, hf⟩ := h0; exact open_bytes hf
  obtain ⟨a1, len1, cap1, rfl⟩ := okWide_slice Tryd.underlying22 (hval 1 22 v1 rfl rfl)
  have hx1 : RdB W W.heap.size (.slice a1 len1 cap1) len1 := by obtain ⟨fuel, hf⟩ := h1; exact open_bytes hf
  clear hA0 hval0 hV0
  refine (exSequenceText W _ len0 hx0 _ len1 hx1 hG).mono fun e W' ⟨he, bel⟩ => ?_
  subst he
  exact ⟨_, rfl, _, _, _, [], _, _, hW', trodAll_mk1 (shut_bool Tryd.underlying4 _), (trodAll_cons_mk (Below.trod laidOut (by kernel_rfl) (of_decide_eq_true (by kernel_rfl)) k0 bel lt0) (trodAll_cons_mk (Below.trod laidOut (by kernel_rfl) (of_decide_eq_true (by kernel_rfl)) k1 bel lt1) trodAll_mk0)), hvars W' bel _, bel.frame _, fun h => by cases h⟩

theorem over : Rows.fnSequenceTextRow.holds Tryd.pinned (OpenSpec.ofChange Rows.fnSequenceTextSpec) :=
  OpenClaim.holds_of_wide 3 Tryd.f3 rfl rfl rfl rfl rfl rfl rfl ⟨rfl, rfl, rfl, rfl, rfl⟩ rfl rfl rfl rfl rfl (by kernel_rfl) Tryd.func3 (by kernel_rfl)
    (of_decide_eq_true (by kernel_rfl)) (by unfold Func.isWrapper; first | (rw [if_pos (by decide +kernel)]; kernel_rfl) | (rw [if_neg (by decide +kernel)]; exact ⟨rfl, rfl⟩))
    (fun os started H enc _ => lifted os started H enc)

/-- The statement. -/
theorem proved : Rows.FnSequenceTextCardSaid :=
  Claim7.holds_tied_plain_at .later [] [.data] true Rows.fnSequenceTextCard.stood.harness false
    over (fun _ h => by cases h) (by kernel_rfl) (fun _ h => by cases h) fnSequenceText_row_tie rfl ⟨rfl, rfl⟩ (by kernel_rfl) rfl
    (fun f fn hf hfn => by
      obtain rfl : f = 3 := Option.some.inj ((show Tryd.prog.funcNamed "loop.example/parallelmoves/laws.FnSequenceText" = some 3 by kernel_rfl).symm.trans hf) |>.symm
      obtain rfl : fn = Tryd.f3 := (Option.some.inj (Tryd.func3.symm.trans hfn)).symm
      exact ⟨by kernel_rfl, fun j t ht => by
        rw [Tryd.params3] at ht
        have h3 : t = 22 := by
          rcases j with _ | _ | j
          · simpa using ht.symm
          · simpa using ht.symm
          · simp at ht
        subst h3
        exact (show Tryd.prog.wantsStandIn 22 = false by kernel_rfl)⟩)
    (by kernel_rfl)
end fnSequenceText
end Go.Proofs.YtinggcjjdgibbabDoor
