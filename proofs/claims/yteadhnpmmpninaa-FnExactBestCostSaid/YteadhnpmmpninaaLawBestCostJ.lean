/- Proved: for every input of the form's own reach the law FnExactBestCost answers true and its arguments read afterwards as before; no further condition. -/
import Derived.Test.YteadhnpmmpninaaLawBestCostJB
import Derived.Test.YteadhnpmmpninaaLawBestCostJA
import Derived.Test.YteadhnpmmpninaaRow
import Derived.Test.YteadhnpmmpninaaIm2
import Derived.Test.YteadhnpmmpninaaTail
import Derived.Test.YteadhnpmmpninaaHar
import Derived.Laws.CopyOwn
import Derived.Stop.RegionWithIn
import Derived.Test.YteadhnpmmpninaaApp
import Derived.Deep.RegionLaw
import Derived.Test.YteadhnpmmpninaaBusy
import Derived.Test.YteadhnpmmpninaaRows
import Derived.Test.YteadhnpmmpninaaLib
import Derived.ProofKit
import Derived.OpenShut
import Derived.ShutString
import Derived.ChangeOld
import Derived.Deep.Slices
import Derived.ChangeSame
import Derived.Carry
namespace Go.PM
open Go.RowKit
def runM (ms : List Mv) (f : Nat → UInt8) : Nat → UInt8 := ms.foldl (fun g m => updS g (cidx m.1) (rdS g m.2)) f
theorem runM_cons (m : Mv) (ms : List Mv) (f : Nat → UInt8) : runM (m :: ms) f = runM ms (updS f (cidx m.1) (rdS f m.2)) := rfl
theorem runS_stL (ms : List Mv) (f : Nat → UInt8) : runS (stL ms) (stL ms).length f = runM ms f := by
  unfold runS runM stL
  rw [List.take_length, List.foldl_map]
  rfl
theorem spT_cell : isC spT = true ∧ cidx spT = 9 := by decide +kernel
/-- what a waiting move reads -/
def okR (a : ByteArray) : Prop := isP a = true ∨ isD a = true ∨ a = spT
theorem cidx_P {a : ByteArray} (h : isP a = true) : isC a = true ∧ cidx a < 9 ∧ nm (cidx a) = a := by
  have h1 := isP_isC h
  have h2 := pidx_spec h
  rw [h1.2]; exact ⟨h1.1, h2⟩
theorem rdS_ne {a b : ByteArray} (ha : okR a) (hb : isP b = true ∨ b = spT) (hne : a ≠ b) (f : Nat → UInt8) (v : UInt8) : rdS (updS f (cidx b) v) a = rdS f a := by
  have hc : isC a = true → cidx a ≠ cidx b := fun h e => by
    rcases ha with ha | ha | ha
    · rcases hb with hb | hb
      · have h1 := (cidx_P ha).2.2; have h2 := (cidx_P hb).2.2
        rw [e, h2] at h1; exact hne h1.symm
      · have h1 := (cidx_P ha).2.1
        rw [e, hb, spT_cell.2] at h1; omega
    · rw [isD_notC ha] at h; cases h
    · rcases hb with hb | hb
      · have h2 := (cidx_P hb).2.1
        rw [← e, ha, spT_cell.2] at h2; omega
      · exact hne (ha.trans hb.symm)
  unfold rdS
  rcases Bool.eq_false_or_eq_true (isC a) with h | h
  · rw [if_pos h, if_pos h, updS, if_neg (hc h)]
  · rw [if_neg (by rw [h]; decide), if_neg (by rw [h]; decide)]
theorem rdS_same {b : ByteArray} (hb : isP b = true ∨ b = spT) (f : Nat → UInt8) (v : UInt8) : rdS (updS f (cidx b) v) b = v := by
  have : isC b = true := by
    rcases hb with hb | hb
    · exact (cidx_P hb).1
    · rw [hb]; exact spT_cell.1
  rw [rdS_cell this, updS, if_pos rfl]
/-- each waiting move reads what its place is to get, and the other places have it -/
structure Due (T : Nat → UInt8) (ws : List Mv) (f : Nat → UInt8) : Prop where
  rd : ∀ m ∈ ws, rdS f m.2 = T (cidx m.1)
  has : ∀ p, p < 9 → nm p ∉ ws.map (·.1) → f p = T p
theorem Due.some_ {T : Nat → UInt8} {ws : List Mv} {f : Nat → UInt8} (h : Due T ws f) (hw : Wt ws) {i : Nat} (hi : i < ws.length) (hf : rdN ws ws[i].1 = 0) :
    Due T (redM ws[i] (ws.eraseIdx i)) (updS f (cidx ws[i].1) (rdS f ws[i].2)) := by
  have hm := List.getElem_mem hi
  have hp := hw.to_ _ hm
  have hz := rdN_zero.1 hf
  have key : ∀ x ∈ ws.eraseIdx i, rdS (updS f (cidx ws[i].1) (rdS f ws[i].2)) x.2 = T (cidx x.1) := fun x hx => by
    have hx1 := erase_mem hx
    rw [rdS_ne (hw.from_ x hx1) (.inl hp) (hz x hx1)]
    exact h.rd x hx1
  refine ⟨fun m' hm' => ?_, fun p hp9 hn => ?_⟩
  · unfold redM at hm'
    split at hm'
    · exact key m' hm'
    · obtain ⟨x, hx, e1, (⟨e2, e3⟩ | ⟨e2, e3⟩)⟩ := instM_mem hm'
      · rw [e3, rdS_same (.inl hp), e1, ← e2]
        exact h.rd x (erase_mem hx)
      · rw [e3]; exact key x hx
  · rw [redM_keys] at hn
    by_cases e : nm p = ws[i].1
    · have : cidx ws[i].1 = p := by rw [← e, (cidx_nm hp9).2]
      rw [this, updS, if_pos rfl, h.rd _ hm, this]
    · rw [updS, if_neg]
      · refine h.has p hp9 fun hk => ?_
        obtain ⟨x, hx, ex⟩ := List.mem_map.1 hk
        rcases erase_or hi hx with h1 | h1
        · exact e (by rw [← ex, h1])
        · exact hn (List.mem_map.2 ⟨x, h1, ex⟩)
      · intro e2
        exact e (by rw [e2]; exact (cidx_P hp).2.2)
theorem Due.none_ {T : Nat → UInt8} {ws : List Mv} {f : Nat → UInt8} (h : Due T ws f) (hw : Wt ws) (h0 : 0 < ws.length) (hn : aheadI ws = none) :
    Due T (redM (spT, ws[0].1) ws) (updS f (cidx spT) (rdS f ws[0].1)) := by
  obtain ⟨_, _, f3⟩ := hw.full hn
  have hz := rdN_zero.1 f3
  have hp := isP_cases (hw.to_ _ (List.getElem_mem h0))
  refine ⟨fun m' hm' => ?_, fun p hp9 hk => ?_⟩
  · unfold redM at hm'
    rw [if_neg (by show ¬ isD ws[0].1 = true; rw [hp.1]; decide)] at hm'
    obtain ⟨x, hx, e1, (⟨e2, e3⟩ | ⟨e2, e3⟩)⟩ := instM_mem hm'
    · rw [e3, rdS_same (.inr rfl), e1, ← h.rd x hx, e2]
    · rw [e3, rdS_ne (hw.from_ x hx) (.inr rfl) (hz x hx)]
      exact h.rd x hx
  · rw [redM_keys] at hk
    rw [updS, spT_cell.2, if_neg (by omega)]
    exact h.has p hp9 hk
theorem ordF_due {T : Nat → UInt8} : ∀ (n : Nat) (ws : List Mv) (f : Nat → UInt8), Wt ws → muW ws ≤ n → Due T ws f → ∀ p, p < 9 → runM (ordF n ws) f p = T p := by
  intro n
  induction n with
  | zero =>
    intro ws f _ hmu h p hp
    have : ws = [] := List.length_eq_zero_iff.1 (by unfold muW at hmu; omega)
    subst this
    exact h.has p hp (by simp)
  | succ n ih =>
    intro ws f hw hmu h p hp
    by_cases h0 : 0 < ws.length
    · cases ha : aheadI ws with
      | some i =>
        obtain ⟨hi, hf⟩ := aheadI_some ha
        rw [ordF_some hi ha, runM_cons]
        exact ih _ _ (hw.some_ hi hf) (by have := muW_some hi ws[i]; omega) (h.some_ hw hi hf) p hp
      | none =>
        rw [ordF_none h0 ha, runM_cons]
        exact ih _ _ (hw.none_ h0 ha).1 (by have := muW_none hw h0 ha; omega) (h.none_ hw h0 ha) p hp
    · have : ws = [] := List.length_eq_zero_iff.1 (by omega)
      subst this
      rw [ordF_nil]
      exact h.has p hp (by simp)
theorem ordF_ok : ∀ (n : Nat) (ws : List Mv), Wt ws → ∀ m ∈ ordF n ws, (isP m.1 = true ∨ m.1 = spT) ∧ okR m.2 := by
  intro n
  induction n with
  | zero => intro ws _ m hm; cases hm
  | succ n ih =>
    intro ws hw m hm
    by_cases h0 : 0 < ws.length
    · cases ha : aheadI ws with
      | some i =>
        obtain ⟨hi, hf⟩ := aheadI_some ha
        rw [ordF_some hi ha, List.mem_cons] at hm
        rcases hm with rfl | hm
        · exact ⟨.inl (hw.to_ _ (List.getElem_mem hi)), hw.from_ _ (List.getElem_mem hi)⟩
        · exact ih _ (hw.some_ hi hf) m hm
      | none =>
        rw [ordF_none h0 ha, List.mem_cons] at hm
        rcases hm with rfl | hm
        · exact ⟨.inr rfl, .inl (hw.to_ _ (List.getElem_mem h0))⟩
        · exact ih _ (hw.none_ h0 ha).1 m hm
    · have : ws = [] := List.length_eq_zero_iff.1 (by omega)
      subst this
      rw [ordF_nil] at hm; cases hm
theorem stOk_M {m : Mv} (h1 : isP m.1 = true ∨ m.1 = spT) (h2 : okR m.2) : stOk (stpM m) = true := by
  have a1 : isC m.1 = true := by
    rcases h1 with h | h
    · exact (cidx_P h).1
    · rw [h]; exact spT_cell.1
  have a2 : (isC m.2 || isD m.2) = true := by
    rcases h2 with h | h | h
    · rw [(cidx_P h).1]; rfl
    · rw [h, Bool.or_true]
    · rw [h]; decide +kernel
  unfold stOk stpM
  simp only [a1, a2]
  rfl
theorem svalid_stL {ms : List Mv} (hl : ms.length ≤ 60) (h : ∀ m ∈ ms, (isP m.1 = true ∨ m.1 = spT) ∧ okR m.2) : svalid (stL ms) = true := by
  unfold svalid
  rw [Bool.and_eq_true, decide_eq_true_eq, List.all_eq_true]
  refine ⟨by unfold stL; rw [List.length_map]; exact hl, fun x hx => ?_⟩
  obtain ⟨m, hm, rfl⟩ := List.mem_map.1 hx
  exact stOk_M (h m hm).1 (h m hm).2
/-- steps of moves that give each place its value are right -/
theorem right_of_run {ms xs : List Mv} (hv : svalid (stL ms) = true) (hx : MV xs) (h : ∀ p, p < 9 → runM ms nmT p = rdS nmT (srcM xs (nm p))) : irB (stL ms) xs = true := by
  rw [← irB_eq (stL ms) xs hv hx, List.all_eq_true]
  intro p hp
  rw [decide_eq_true_eq]
  by_cases h9 : p < 9
  · rw [if_pos h9, aoS, if_pos h9, srcM_nm hx h9]
    have := h p h9
    rw [← runS_stL] at this
    exact this
  · rw [if_neg h9, aoS, if_neg h9]
theorem busy_due {xs : List Mv} (_hx : MV xs) : Due (fun p => rdS nmT (srcM xs (nm p))) (busyF xs 9) nmT := by
  have hl : busyF xs 9 = lsF (fun p => srcM xs (nm p)) 9 := rfl
  refine ⟨fun m hm => ?_, fun p hp hn => ?_⟩
  · rw [hl] at hm
    obtain ⟨p, hp, _, rfl⟩ := lsF_mem hm
    show _ = rdS nmT (srcM xs (nm (cidx (nm p))))
    rw [(cidx_nm hp).2]
  · have : srcM xs (nm p) = nm p := by
      refine Classical.not_not.1 fun hne => hn ?_
      rw [hl]
      exact List.mem_map.2 ⟨(nm p, srcM xs (nm p)), List.mem_map.2 ⟨p, List.mem_filter.2 ⟨by simpa using hp, by simpa [lsH] using hne⟩, rfl⟩, rfl⟩
    show nmT p = rdS nmT (srcM xs (nm p))
    rw [this, rdS_nm nmT hp]
theorem busy_mu {xs : List Mv} : muW (busyF xs 9) ≤ 19 := by
  have := busyF_len xs 9
  unfold muW
  split <;> omega
theorem ordM_yes {xs : List Mv} (h : MV xs) : ordM xs = ordF 19 (busyF xs 9) := if_pos (by simpa [mvalid] using h)
theorem ordM_valid {xs : List Mv} (h : MV xs) : svalid (stL (ordM xs)) = true := by
  rw [ordM_yes h]
  exact svalid_stL (by have := ordF_len 19 (busyF xs 9); omega) (ordF_ok 19 _ (busyF_Wt h))
/-- the steps of an order do the moves -/
theorem ordM_right {xs : List Mv} (h : MV xs) : irB (stL (ordM xs)) xs = true := by
  refine right_of_run (ordM_valid h) h fun p hp => ?_
  rw [ordM_yes h]
  exact ordF_due 19 _ nmT (busyF_Wt h) busy_mu (busy_due h) p hp
end Go.PM
namespace Go.PM
open Go.RowKit
/-- an array of nine numbers -/
def cntC (f : Nat → Nat) : Array Value := #[.int .i64 (f 0 : Nat), .int .i64 (f 1 : Nat), .int .i64 (f 2 : Nat), .int .i64 (f 3 : Nat), .int .i64 (f 4 : Nat), .int .i64 (f 5 : Nat), .int .i64 (f 6 : Nat), .int .i64 (f 7 : Nat), .int .i64 (f 8 : Nat)]
theorem cntC_at (f : Nat → Nat) (p : Nat) (hp : p < 9) : (cntC f)[p]? = some (.int .i64 (f p : Nat)) := by
  match p, hp with
  | 0, _ | 1, _ | 2, _ | 3, _ | 4, _ | 5, _ | 6, _ | 7, _ | 8, _ => rfl
theorem cntC_set (f : Nat → Nat) (p : Nat) (hp : p < 9) (n : Nat) : (cntC f).setIfInBounds p (.int .i64 (n : Nat)) = cntC (fun q => if q = p then n else f q) := by
  match p, hp with
  | 0, _ | 1, _ | 2, _ | 3, _ | 4, _ | 5, _ | 6, _ | 7, _ | 8, _ => simp [cntC]
theorem cntC_congr {f g : Nat → Nat} (h : ∀ p, p < 9 → f p = g p) : cntC f = cntC g := by
  unfold cntC
  rw [h 0 (by omega), h 1 (by omega), h 2 (by omega), h 3 (by omega), h 4 (by omega), h 5 (by omega), h 6 (by omega), h 7 (by omega), h 8 (by omega)]
theorem cntC_one (f : Nat → Nat) : (cntC f).all (·.oneCell') = true := by simp [cntC, Value.oneCell']
/-- how many of the moves read each place -/
def cntF (xs : List Mv) (p : Nat) : Nat := rdN xs (nm p)
theorem rdN_snoc (xs : List Mv) (x : Mv) (a : ByteArray) : rdN (xs ++ [x]) a = rdN xs a + if x.2 = a then 1 else 0 := by
  unfold rdN
  rw [List.map_append, List.count_append, List.map_cons, List.map_nil, List.count_cons]
  simp
theorem rdN_le (xs : List Mv) (a : ByteArray) : rdN xs a ≤ xs.length := by
  unfold rdN
  have := List.count_le_length (a := a) (l := xs.map (·.2))
  simpa using this
theorem cntF_yes (xs : List Mv) (x : Mv) (h : isP x.2 = true) : cntC (fun q => if q = pidx x.2 then cntF xs (pidx x.2) + 1 else cntF xs q) = cntC (cntF (xs ++ [x])) := by
  refine cntC_congr fun p hp => ?_
  have hx := pidx_spec h
  unfold cntF
  rw [rdN_snoc]
  by_cases e : p = pidx x.2
  · subst e
    rw [if_pos rfl, if_pos hx.2.symm]
  · rw [if_neg e, if_neg (fun e2 => e (by rw [e2, pidx_nm hp]))]; rfl
theorem cntF_no (xs : List Mv) (x : Mv) (h : isP x.2 = false) : cntC (cntF xs) = cntC (cntF (xs ++ [x])) := by
  refine cntC_congr fun p hp => ?_
  unfold cntF
  rw [rdN_snoc, if_neg (fun e => by rw [e, isP_nm hp] at h; cases h)]; rfl
end Go.PM
namespace Go.Proofs.Yteadhnpmmpninaa
open Go.RowKit Go.PM

set_option maxRecDepth 100000 in
set_option maxHeartbeats 1600000 in
theorem countReaders_c (xs : List Mv) (v : Value) (w : World) (hx : RdM w v xs) (hn' : xs.length ≤ 1048576) :
    Calls Try.prog 133 #[v] w fun e w' => e = .returned (.agg (cntC (cntF xs))) ∧ Below w.heap.size w w' := by
  obtain ⟨A, cap, rfl, hn, hc, hcell⟩ := hx.open
  have hz : (#[.int .i64 0, .int .i64 0, .int .i64 0, .int .i64 0, .int .i64 0, .int .i64 0, .int .i64 0, .int .i64 0, .int .i64 0] : Array Value) = cntC (cntF []) := rfl
  go_enter Try.func133, Try.ntmps133
  go_wp2
  clear hz
  obtain ⟨W0, hW0⟩ : ∃ W0 : World, W0 = (w.alloc (Obj.cells (cntC (cntF [])) 144)).alloc (Obj.cells (cntC (cntF [])) 144) := ⟨_, rfl⟩
  have hB0 : Below w.heap.size w W0 := by rw [hW0]; (repeat' (first | (with_reducible exact Below.refl _ _) | (with_reducible assumption) | (with_reducible refine Below.alloc ?_ ?_ _) | (with_reducible refine Below.drew ?_) | (with_reducible refine Below.setCell ?_ ?_ _) | (with_reducible exact Nat.le_refl _) | omega | ((repeat (first | rewrite [World.size_alloc] | rewrite [World.size_setCell] | rewrite [World.size_drew])); omega) | (simp; omega) | (simp; done)))
  have hA0 : At W0 w.heap.size 144 (cntC (cntF [])) := by rw [hW0]; exact (At.new _ _ _).alloc _
  have hA1 : At W0 (w.heap.size + 1) 144 (cntC (cntF [])) := by
    rw [hW0]; have := At.new (w.alloc (Obj.cells (cntC (cntF [])) 144)) 144 (cntC (cntF []))
    rwa [World.size_alloc] at this
  rw [← hW0]
  clear hW0
  go_loopw [5, 6, 7, 10] (fun _ _ _ i wr => ∃ (k : Nat), k ≤ xs.length ∧ i = .int .i64 k ∧ Below w.heap.size w wr ∧ At wr w.heap.size 144 (cntC (cntF [])) ∧ At wr (w.heap.size + 1) 144 (cntC (cntF (xs.take k)))) (fun _ _ _ i _ => xs.length - (RowKit.intOf i).toNat)
  case atStart => exact ⟨0, by omega, rfl, hB0, hA0, by simpa using hA1⟩
  case round =>
    obtain ⟨k, hk, rfl, hb, hA2, hA4⟩ := hrel
    have hbs := hb.size
    have hlt4 := hA4.lt
    by_cases hlt : k < xs.length
    · obtain ⟨b, off, rfl, hbl, hc1, hc2⟩ := hcell k hlt
      have hd1 := (hb.cell (p := ⟨b, off + k * 2, none⟩) hbl).trans hc1
      have hd2 := (hb.cell (p := ⟨b, off + k * 2 + 1, none⟩) hbl).trans hc2
      clear hc1 hc2 hcell
      have hsn := take_snoc xs k hlt
      have hY := cntF_yes (xs.take k) xs[k]
      have hN := cntF_no (xs.take k) xs[k]
      have hle : ∀ p, cntF (xs.take k) p ≤ 1048576 := fun p => by
        have := rdN_le (xs.take k) (nm p)
        rw [List.length_take] at this
        unfold cntF; omega
      rw [← hsn] at hY hN
      clear hsn
      generalize xs[k].1 = a at *
      generalize xs[k].2 = b2 at *
      have HY := Lib.hid hY
      have HN := Lib.hid hN
      generalize hG : cntF (xs.take k) = G at *
      clear hY hN hG
      rcases Bool.eq_false_or_eq_true (isP b2) with hp | hp
      · have hp9 := (pidx_spec hp).1
        have HS := Lib.hid ((cntC_set G (pidx b2) hp9 (G (pidx b2) + 1)).trans (HY.out hp))
        have hkc : At (wr.alloc (.cells #[.string a, .string b2] 31)) (w.heap.size + 1) 144 (cntC G) := hA4.alloc _
        have c4 := (hkc.cell (pidx b2)).trans (cntC_at G _ hp9)
        have z4 := hkc.frozen (pidx b2)
        have hgl := hle (pidx b2)
        have i0 : (0 : Int) ≤ (pidx b2 : Int) := by omega
        have i1 : (pidx b2 : Int) < 9 := by omega
        have HI := Lib.hid (fun W => indexOf_yes b2 hp W)
        generalize pidx b2 = q at *
        generalize G q = gq at *
        go_wp2_with (go_at_call 73; refine (HI.out _).mono ?_; rintro e w' ⟨rfl, rfl⟩)
        go_roundw
        case rel =>
          refine ⟨k + 1, by omega, by go_num, by (repeat' (first | (with_reducible exact Below.refl _ _) | (with_reducible assumption) | (with_reducible refine Below.alloc ?_ ?_ _) | (with_reducible refine Below.drew ?_) | (with_reducible refine Below.setCell ?_ ?_ _) | (with_reducible exact Nat.le_refl _) | omega | ((repeat (first | rewrite [World.size_alloc] | rewrite [World.size_setCell] | rewrite [World.size_drew])); omega) | (simp; omega) | (simp; done))), (At.far hA2 (by simp) _).alloc _, ?_⟩
          rw [← HS.out]
          exact (hA4.set q _).alloc _
        case measure => simp [RowKit.intOf]; omega
      · go_wp2_with (go_at_call 73; refine (indexOf_no b2 hp _).mono ?_; rintro e w' ⟨rfl, rfl⟩)
        go_roundw
        case rel =>
          refine ⟨k + 1, by omega, by go_num, by (repeat' (first | (with_reducible exact Below.refl _ _) | (with_reducible assumption) | (with_reducible refine Below.alloc ?_ ?_ _) | (with_reducible refine Below.drew ?_) | (with_reducible refine Below.setCell ?_ ?_ _) | (with_reducible exact Nat.le_refl _) | omega | ((repeat (first | rewrite [World.size_alloc] | rewrite [World.size_setCell] | rewrite [World.size_drew])); omega) | (simp; omega) | (simp; done))), hA2.alloc _, ?_⟩
          rw [← HN.out hp]
          exact hA4.alloc _
        case measure => simp [RowKit.intOf]; omega
    · have hk' : k = xs.length := by omega
      rw [hk', List.take_of_length_le (Nat.le_refl _)] at hA4
      clear hk' hcell
      have hGG := Lib.hid (fun (e : Ending) (h : e = Ending.returned (.agg (cntC (cntF xs)))) => h)
      obtain ⟨G, hG⟩ : ∃ G, G = cntF xs := ⟨_, rfl⟩
      rw [← hG] at hA4
      have HG := Lib.hid hG
      clear hG hGG
      have hl2 := hA2.lt
      go_wp2_with (first | (refine ld_row rfl 144 (.tmp 3) rfl (w.heap.size + 1) 144 (cntC G) hA4 (by rfl) 9 3 Try.underlying144 (by kernel_rfl) ?_) | (refine st_row rfl 144 (.tmp 2) (.tmp 27) rfl rfl w.heap.size 144 (cntC (cntF [])) (cntC G) hA2 (by rfl) (by rfl) (by kernel_rfl) rfl (cntC_one _) ?_; intro W6 hA6 hg6))
      have bel : Below w.heap.size w W6 := hb.trans (below_grown hg6 hbs (fun g hg => by cases hg; omega))
      exact bodyPost_ret (v := .agg (cntC G)) (results_row1 Try.results133 _ _ w.heap.size 144 (cntC G) (by rfl) hA6 9 3 Try.underlying144 (by kernel_rfl)) rfl ⟨by rw [HG.out], bel⟩

/-- whether a move can be done ahead of those that are counted -/
def aheadP (xs : List Mv) (m : Mv) : Bool := decide (rdN xs m.1 = 0)
set_option maxRecDepth 100000 in
set_option maxHeartbeats 1600000 in
theorem ahead_c (xs : List Mv) (m : Mv) (hp : isP m.1 = true) (w : World) (hle : xs.length ≤ 1048576) :
    Calls Try.prog 134 #[.agg (cntC (cntF xs)), .agg #[.string m.1, .string m.2]] w fun e w' => e = .returned (.bool (freeB xs m)) ∧ Below w.heap.size w w' := by
  have hp9 := (pidx_spec hp).1
  have hf : Hid (freeB xs m = ((cntF xs (pidx m.1) : Int) == 0)) := by
    show _ = _
    unfold freeB cntF
    rw [(pidx_spec hp).2]
    rw [Bool.eq_iff_iff]; simp
  have hcn := cntC_at (cntF xs) (pidx m.1) hp9
  have hg0 : cntF xs (pidx m.1) ≤ 1048576 := by have := rdN_le xs (nm (pidx m.1)); unfold cntF; omega
  have hnew := At.new w 144 (cntC (cntF xs))
  have hnew2 := hnew.alloc (.cells #[.string m.1, .string m.2] 31)
  have c4 := (hnew2.cell (pidx m.1)).trans hcn
  have hl := hnew2.lt
  have i0 : (0 : Int) ≤ (pidx m.1 : Int) := by omega
  have i1 : (pidx m.1 : Int) < 9 := by omega
  have HY := Lib.hid (fun W => indexOf_yes m.1 hp W)
  generalize cntF xs (pidx m.1) = n0 at *
  generalize cntC (cntF xs) = G at *
  generalize pidx m.1 = q at *
  clear hcn
  go_enter Try.func134, Try.ntmps134
  go_wp2_with (go_at_call 73; refine (HY.out _).mono ?_; rintro e w' ⟨rfl, rfl⟩)
  go_ret
  exact ⟨by rw [hf.out]; rfl, by (repeat' (first | (with_reducible exact Below.refl _ _) | (with_reducible assumption) | (with_reducible refine Below.alloc ?_ ?_ _) | (with_reducible refine Below.drew ?_) | (with_reducible refine Below.setCell ?_ ?_ _) | (with_reducible exact Nat.le_refl _) | omega | ((repeat (first | rewrite [World.size_alloc] | rewrite [World.size_setCell] | rewrite [World.size_drew])); omega) | (simp; omega) | (simp; done)))⟩
end Go.Proofs.Yteadhnpmmpninaa
namespace Go.PM
open Go.RowKit
theorem aheadZ_at {xs : List Mv} {k : Nat} (hk : k < xs.length) (h : ∀ j (hj : j < k), freeB xs (xs[j]'(by omega)) = false) (hf : freeB xs xs[k] = true) : aheadZ xs = (k : Int) := by
  have : aheadI xs = some k := by
    unfold aheadI
    rw [List.findIdx?_eq_some_iff_getElem]
    exact ⟨hk, hf, fun j hj => by rw [h j hj]; decide⟩
  unfold aheadZ; rw [this]
theorem aheadZ_none {xs : List Mv} (h : ∀ j (hj : j < xs.length), freeB xs xs[j] = false) : aheadZ xs = -1 := by
  have : aheadI xs = none := by
    unfold aheadI
    rw [List.findIdx?_eq_none_iff]
    intro m hm
    obtain ⟨j, hj, rfl⟩ := List.getElem_of_mem hm
    exact h j hj
  unfold aheadZ; rw [this]
theorem aheadZ_lt (xs : List Mv) : aheadZ xs = -1 ∨ ∃ i : Nat, i < xs.length ∧ aheadZ xs = i ∧ aheadI xs = some i := by
  cases h : aheadI xs with
  | none => left; unfold aheadZ; rw [h]
  | some i =>
    right
    obtain ⟨hi, _⟩ := aheadI_some h
    exact ⟨i, hi, by unfold aheadZ; rw [h], rfl⟩
theorem aheadI_of_neg {xs : List Mv} (h : aheadZ xs = -1) : aheadI xs = none := by
  cases h2 : aheadI xs with
  | none => rfl
  | some i =>
    unfold aheadZ at h
    rw [h2] at h
    simp only at h
    omega
end Go.PM
namespace Go.Proofs.Yteadhnpmmpninaa
open Go.RowKit Go.PM

set_option maxRecDepth 100000 in
set_option maxHeartbeats 1600000 in
theorem indexFunc_c (xs : List Mv) (v : Value) (w : World) (hx : RdM w v xs) (hn' : xs.length ≤ 1048576) (hP : ∀ m ∈ xs, isP m.1 = true) :
    Calls Try.prog 132 #[v, .func (.func 134) #[.agg (cntC (cntF xs))] #[]] w fun e w' => e = .returned (.int .i64 (aheadZ xs)) ∧ Below w.heap.size w w' := by
  obtain ⟨A, cap, rfl, hn, hc, hcell⟩ := hx.open
  have HA := Lib.hid (fun m W hp => ahead_c xs m hp W hn')
  have HP := Lib.hid hP
  have HZ := Lib.hid (aheadZ_none (xs := xs))
  have HK := Lib.hid (fun k hk h => aheadZ_at (xs := xs) (k := k) hk h)
  clear hP
  generalize cntC (cntF xs) = G at *
  go_enter Try.func132, Try.ntmps132
  go_wp2
  go_loopw [5, 8] (fun _ i wr => ∃ (k : Nat), k ≤ xs.length ∧ i = .int .i64 k ∧ Below w.heap.size w wr ∧ Hid (∀ j (hj : j < k) (hj2 : j < xs.length), freeB xs xs[j] = false)) (fun _ i _ => xs.length - (RowKit.intOf i).toNat)
  case atStart => exact ⟨0, by omega, rfl, Below.refl _ _, fun j hj => by omega⟩
  case round =>
    obtain ⟨k, hk, rfl, hb, hm⟩ := hrel
    have hbs := hb.size
    by_cases hlt : k < xs.length
    · obtain ⟨b, off, rfl, hbl, hc1, hc2⟩ := hcell k hlt
      have hd1 := (hb.cell (p := ⟨b, off + k * 2, none⟩) hbl).trans hc1
      have hd2 := (hb.cell (p := ⟨b, off + k * 2 + 1, none⟩) hbl).trans hc2
      clear hc1 hc2 hcell
      have ha := HA.out xs[k] wr (HP.out _ (List.getElem_mem hlt))
      have HKK := Lib.hid (fun h => HK.out k hlt h)
      have HNX : Hid (freeB xs xs[k] = false → ∀ j (hj : j < k + 1) (hj2 : j < xs.length), freeB xs xs[j] = false) := fun h j hj hj2 => by
        by_cases e : j = k
        · subst e; exact h
        · exact hm.out j (by omega) hj2
      generalize freeB xs xs[k] = fb at *
      generalize xs[k].1 = x1 at *
      generalize xs[k].2 = x2 at *
      have HAA := Lib.hid ha
      clear ha
      cases fb with
      | true =>
        go_wp2_with (go_at_call 134; refine HAA.out.mono ?_; rintro e w3 ⟨rfl, hb3⟩)
        go_ret
        exact ⟨by rw [HKK.out (fun j hj => hm.out j hj (by omega)) (by first | trivial | rfl)]; rfl, hb.trans (hb3.mono hbs)⟩
      | false =>
        go_wp2_with (go_at_call 134; refine HAA.out.mono ?_; rintro e w3 ⟨rfl, hb3⟩)
        go_roundw
        case rel => exact ⟨k + 1, by omega, by go_num, hb.trans (hb3.mono hbs), HNX.out (by first | trivial | rfl)⟩
        case measure => simp [RowKit.intOf]; omega
    · have hz := HZ.out fun j hj => hm.out j (by omega) hj
      have HZZ := Lib.hid hz
      clear hz
      go_wp2
      go_ret
      exact ⟨by rw [HZZ.out]; rfl, hb⟩
set_option maxRecDepth 100000 in
set_option maxHeartbeats 1600000 in
theorem firstAhead_c (xs : List Mv) (v : Value) (w : World) (hx : RdM w v xs) (hn' : xs.length ≤ 1048576) (hP : ∀ m ∈ xs, isP m.1 = true) :
    Calls Try.prog 112 #[v] w fun e w' => e = .returned (.int .i64 (aheadZ xs)) ∧ Below w.heap.size w w' := by
  go_enter Try.func112, Try.ntmps112
  go_wp2_with fail
  refine (countReaders_c xs v _ hx hn').mono ?_
  rintro e w1 ⟨rfl, hb1⟩
  have hs1 := hb1.size
  have hx1 := hx.below hb1
  go_wp2_with fail
  refine (indexFunc_c xs v _ hx1 hn' hP).mono ?_
  rintro e w2 ⟨rfl, hb2⟩
  have hb := hb1.trans (hb2.mono hs1)
  clear hb2
  go_wp2
  go_ret
  exact ⟨rfl, hb⟩
end Go.Proofs.Yteadhnpmmpninaa
namespace Go.PM
open Go.RowKit
section
variable {P : Program}
/-- copy into a row that is known whole, elements of s cells -/
theorem run_copyN (w : World) (dT sT ty elem : TypeId) (s g o dLen dCap : Nat) (a : Addr) (sLen sCap : Nat) (cur : Array Value) (t : TypeId) (cs : List Value)
    (hu : P.underlying dT = some (.slice elem)) (hs : (P.info? elem).map (·.size) = some s)
    (hg : w.heap[g]? = some (.cells cur t (0, 0))) (hn : cs.length = Nat.min sLen dLen * s)
    (hsrc : ∀ j v, cs[j]? = some v → w.cell? (a.add j) = some v) (hfit : o + cs.length ≤ cur.size) (h1 : ∀ v ∈ cs, v.oneCell' = true) :
    (Builtin.copy_ #[dT, sT] ty #[.slice (some ⟨g, o, none⟩) dLen dCap, .slice (some a) sLen sCap]).run P w =
      .ok (goInt (Nat.min sLen dLen : Nat)) (w.setRow g (cur.toList.take o ++ cs ++ cur.toList.drop (o + cs.length)).toArray) := by
  have hl := run_loadCells_list (P := P) w a cs hsrc
  have hst := run_storeCells_at P g o t cs 0 cur w hg (by simpa using hfit) h1
  cases hq : P.info? elem with
  | none => simp [hq] at hs
  | some i =>
    have hi : i.size = s := by simpa [hq] using hs
    simp only [hn] at hl
    rw [← hn] at hl
    simp [Builtin.copy_, run_underlying hu, Builtin.lenOf, Builtin.firstCells, sizeOf, typeInfo, hq, hi, ← hn, hl, hst]
theorem run_copyN0 (w : World) (dT sT ty elem : TypeId) (s : Nat) (d a : Option Addr) (dLen dCap sLen sCap : Nat) (hu : P.underlying dT = some (.slice elem)) (hs : (P.info? elem).map (·.size) = some s) (hn : Nat.min sLen dLen = 0) :
    (Builtin.copy_ #[dT, sT] ty #[.slice d dLen dCap, .slice a sLen sCap]).run P w = .ok (goInt 0) w := by
  cases hq : P.info? elem with
  | none => simp [hq] at hs
  | some i =>
    have hl : ∀ a, (loadCells a 0).run P w = .ok #[] w := fun a => run_loadCells_list (P := P) w a [] (by simp)
    cases d <;> cases a <;> simp [Builtin.copy_, run_underlying hu, Builtin.lenOf, Builtin.firstCells, sizeOf, typeInfo, hq, hn, hl, storeCells]
theorem wpList_copyN {w : World} {ops : Array Oper} {rest : List Oper} {o : Oper} {a : Act} {Q : Exit → Act → World → Prop} (hgd : o.guard = none) (d s : Operand) (dT sT : TypeId)
    (ho : o.op = .call { callee := .builtin .copy, args := #[d, s], argTypes := #[dT, sT] }) (elem : TypeId) (sz : Nat) (hu : P.underlying dT = some (.slice elem)) (hsz : (P.info? elem).map (·.size) = some sz)
    (dp sp : Option Addr) (dLen dCap sLen sCap : Nat) (hd : a.eval d = .slice dp dLen dCap) (hs : a.eval s = .slice sp sLen sCap)
    (g off : Nat) (cur : List Value) (t : TypeId) (hg : w.heap[g]? = some (.cells cur.toArray t (0, 0))) (cs : List Value) (hn : cs.length = Nat.min sLen dLen * sz)
    (hpos : 0 < Nat.min sLen dLen → dp = some ⟨g, off, none⟩ ∧ ∃ ad, sp = some ad ∧ ∀ j v, cs[j]? = some v → w.cell? (ad.add j) = some v)
    (hfit : off + cs.length ≤ cur.length) (h1 : ∀ v ∈ cs, v.oneCell' = true) (B : Nat) (w0 : World) (hb : Below B w0 w) (hBg : B ≤ g)
    (h : ∀ w', Hid (w'.heap[g]? = some (.cells (splice cur off cs).toArray t (0, 0))) → Below B w0 w' → wpList P ops Q rest (a.put o.dst (goInt (Nat.min sLen dLen : Nat))) w') :
    wpList P ops Q (o :: rest) a w := by
  refine wpList_plain hgd fun K hK => ?_
  by_cases h0 : Nat.min sLen dLen = 0
  · obtain rfl : cs = [] := List.eq_nil_of_length_eq_zero (by rw [hn, h0, Nat.zero_mul])
    have hrun := run_copyN0 (P := P) w dT sT o.type elem sz dp sp dLen dCap sLen sCap hu hsz h0
    unfold Oper.wp
    simp [execOp, ho, resolve, invoke, builtin, hd, hs, hrun, Result.andThen]
    have := h w (show _ = _ by simpa [splice] using hg) hb
    rw [h0] at this
    exact hK _ _ this
  · obtain ⟨rfl, ad, rfl, hsrc⟩ := hpos (by omega)
    have hrun := run_copyN (P := P) w dT sT o.type elem sz g off dLen dCap ad sLen sCap cur.toArray t cs hu hsz hg hn hsrc (by simpa using hfit) h1
    unfold Oper.wp
    simp [execOp, ho, resolve, invoke, builtin, hd, hs, hrun, Result.andThen]
    have := h _ (show _ = _ by simpa [splice] using setRow_heap w g _ _ t _ hg) (below_setRow hb hBg _)
    refine hK _ _ ?_
    simpa [splice] using this
end
theorem mcells_one (xs : List Mv) : ∀ v ∈ mcells xs, v.oneCell' = true := by
  intro v hv
  unfold mcells at hv
  obtain ⟨m, _, h⟩ := List.mem_flatMap.1 hv
  simp at h
  rcases h with rfl | rfl <;> rfl
theorem own_at (w : World) (g base : Nat) (e : TypeId) (xs : List Mv) (hg : At w g e (mcells xs).toArray) (hb : base ≤ g) (hn : xs.length ≤ 1048576) :
    w.ownsRow base e 2 (.slice (some ⟨g, 0, none⟩) xs.length xs.length) xs.length (mcells xs) := by
  have hl := mcells_length xs
  have hm : maxLen = 9223372036854775807 := rfl
  refine ⟨hl, .inr ⟨g, xs.length, (mcells xs).toArray, rfl, hb, hg, Nat.le_refl _, by omega, by simp [hl], by simp [← hl]⟩⟩
end Go.PM
namespace Go.PM
open Go.RowKit
theorem mcells_take (xs : List Mv) (k : Nat) : (mcells xs).take (k * 2) = mcells (xs.take k) := by
  induction xs generalizing k with
  | nil => simp [mcells]
  | cons x xs ih =>
    cases k with
    | zero => simp [mcells]
    | succ k =>
      rw [mcells_cons, List.take_succ_cons, mcells_cons, ← ih k, show (k + 1) * 2 = k * 2 + 1 + 1 by omega]
      rfl
theorem mcells_drop (xs : List Mv) (k : Nat) : (mcells xs).drop (k * 2) = mcells (xs.drop k) := by
  induction xs generalizing k with
  | nil => simp [mcells]
  | cons x xs ih =>
    cases k with
    | zero => simp [mcells]
    | succ k =>
      rw [mcells_cons, List.drop_succ_cons, ← ih k, show (k + 1) * 2 = k * 2 + 1 + 1 by omega]
      rfl
theorem Rd.cellsFrom {w : World} {b off n cap : Nat} {xs : List Mv} (h : RdM w (.slice (some ⟨b, off, none⟩) n cap) xs) : ∀ j u, (mcells xs)[j]? = some u → w.cell? ⟨b, off + j, none⟩ = some u := by
  intro j u hu
  obtain ⟨A, cap', e, hc, hn, hl, hr⟩ := h
  have h0 : 0 < xs.length := by
    have := (List.getElem?_eq_some_iff.1 hu).1
    rw [mcells_length] at this; omega
  obtain ⟨b', off', eA, hb, hcell⟩ := hr h0
  cases e; cases eA
  exact hcell j u hu
end Go.PM
namespace Go.Proofs.Yteadhnpmmpninaa
open Go.RowKit Go.PM

set_option maxRecDepth 100000 in
set_option maxHeartbeats 1600000 in
theorem without_c (xs : List Mv) (v : Value) (i : Nat) (hi : i < xs.length) (w : World) (hx : RdM w v xs) (hn' : xs.length ≤ 1048576) :
    Calls Try.prog 113 #[v, .int .i64 i] w fun e w' => ∃ v', e = .returned v' ∧ w'.ownsRow w.heap.size 31 2 v' (xs.eraseIdx i).length (mcells (xs.eraseIdx i)) ∧ Below w.heap.size w w' := by
  have hx0 := hx
  obtain ⟨A, cap, rfl, hn, hc, hcell⟩ := hx.open
  obtain ⟨b, off, rfl, hbl, _, _⟩ := hcell i hi
  clear hcell
  have hsrc := Rd.cellsFrom hx0
  clear hx hx0
  obtain ⟨i0, hi0, hz0, hz1, hz2⟩ := info_parts infoMv
  have hmk := fun W : World => run_make (P := Try.prog) W 23 31 i0 _ Try.underlying23 hi0 hz0 .i64 .i64 ((xs.length - 1 : Nat) : Int) ((xs.length - 1 : Nat) : Int) (by omega) (Int.le_refl _) (by rw [hz2]; omega) (by omega)
  simp only [Int.toNat_natCast, hz1] at hmk
  have hsub : ((xs.length : Int) - 1) = ((xs.length - 1 : Nat) : Int) := by omega
  generalize xs.length - 1 = n1 at *
  obtain ⟨Z, hZ, hZl⟩ : ∃ Z : List Value, madeCells #[Value.string ⟨#[]⟩, Value.string ⟨#[]⟩] (n1 * 2) = Z.toArray ∧ Z.length = n1 * 2 := ⟨(madeCells #[Value.string ⟨#[]⟩, Value.string ⟨#[]⟩] (n1 * 2)).toList, by simp, by rw [Array.length_toList]; exact size_madeCells _ _⟩
  have hmk2 : ∀ W : World, Sem.run Try.prog (Instr.makeSlice 23 (.int .i64 (n1 : Nat)) (.int .i64 (n1 : Nat))) W = .ok (.slice (some ⟨W.heap.size, 0, none⟩) n1 n1) (W.alloc (.cells Z.toArray 31)) := fun W => by rw [hmk W]; exact congrArg (fun c => Result.ok (Value.slice (some ⟨W.heap.size, 0, none⟩) n1 n1) (W.alloc (.cells c 31))) hZ
  clear hmk hZ hz0 hz1 hz2 hi0 i0
  have hO : At (w.alloc (.cells Z.toArray 31)) w.heap.size 31 Z.toArray := At.new _ _ _
  have hB : Below w.heap.size w (w.alloc (.cells Z.toArray 31)) := (Below.refl _ _).alloc (Nat.le_refl _) _
  have hl1 : (mcells (xs.take i)).length = i * 2 := by rw [mcells_length, List.length_take]; omega
  have hl2 : (mcells (xs.drop (i + 1))).length = (n1 - i) * 2 := by rw [mcells_length, List.length_drop]; omega
  have hin : i ≤ n1 := by omega
  have hm1 : Nat.min i n1 = i := Nat.min_eq_left hin
  have s1 : ∀ j u, (mcells (xs.take i))[j]? = some u → (mcells xs)[j]? = some u := fun j u h => by
    rw [← mcells_take, List.getElem?_take] at h
    split at h
    · exact h
    · cases h
  have s2 : ∀ j u, (mcells (xs.drop (i + 1)))[j]? = some u → (mcells xs)[(i + 1) * 2 + j]? = some u := fun j u h => by
    rw [← mcells_drop, List.getElem?_drop] at h
    exact h
  have o1 := mcells_one (xs.take i)
  have o2 := mcells_one (xs.drop (i + 1))
  have hfin : ∀ X1 X2 : List Value, X1 = mcells (xs.take i) → X2 = mcells (xs.drop (i + 1)) → splice (splice Z 0 X1) (i * 2) X2 = mcells (xs.eraseIdx i) := fun X1 X2 e1 e2 => by
    have hl1' : X1.length = i * 2 := by rw [e1]; exact hl1
    have hl2' : X2.length = (n1 - i) * 2 := by rw [e2]; exact hl2
    have e3 : splice Z 0 X1 = X1 ++ Z.drop (i * 2) := by unfold splice; simp [hl1']
    rw [e3]
    unfold splice
    rw [List.take_left' hl1', List.drop_eq_nil_of_le (by rw [List.length_append, List.length_drop, hl1', hl2', hZl]; omega), List.append_nil, e1, e2, ← mcells_append, List.eraseIdx_eq_take_drop_succ]
  have hle : (xs.eraseIdx i).length = n1 := by rw [List.length_eraseIdx_of_lt hi]; omega
  obtain ⟨X1, hX1⟩ : ∃ X, X = mcells (xs.take i) := ⟨_, rfl⟩
  obtain ⟨X2, hX2⟩ : ∃ X, X = mcells (xs.drop (i + 1)) := ⟨_, rfl⟩
  have hf := Lib.hid (hfin X1 X2 hX1 hX2)
  rw [← hX1] at hl1 s1 o1
  rw [← hX2] at hl2 s2 o2
  have HX := Lib.hid (And.intro hX1 hX2)
  have HLE := Lib.hid hle
  have HS := Lib.hid hsrc
  clear hX1 hX2 hfin hle
  have hcp : ∀ (W : World), Below w.heap.size w W → ∀ (j : Nat) (u : Value), (mcells xs)[j]? = some u → W.cell? ⟨b, off + j, none⟩ = some u := fun W hW j u h => (hW.cell hbl).trans (hsrc j u h)
  have hp1 : 0 < Nat.min i n1 → (some ⟨w.heap.size, 0, none⟩ : Option Addr) = some ⟨w.heap.size, 0, none⟩ ∧ ∃ ad, (some ⟨b, off, none⟩ : Option Addr) = some ad ∧ ∀ j v, X1[j]? = some v → (w.alloc (.cells Z.toArray 31)).cell? (ad.add j) = some v :=
    fun _ => ⟨rfl, _, rfl, fun j u h => by rw [show (⟨b, off, none⟩ : Addr).add j = ⟨b, off + j, none⟩ by unfold Addr.add; split <;> simp_all]; exact hcp _ hB j u (s1 j u h)⟩
  go_enter Try.func113, Try.ntmps113
  go_wp2_with (refine wpList_copyN rfl (.tmp 10) (.tmp 13) 23 23 rfl 31 2 Try.underlying23 (by kernel_rfl) (some ⟨w.heap.size, 0, none⟩) (some ⟨b, off, none⟩) n1 n1 i cap (by rfl) (by rfl) w.heap.size 0 Z 31 hO X1 (by rw [hl1, hm1]) hp1 (by rw [hl1, hZl]; omega) o1 w.heap.size w hB (Nat.le_refl _) ?_; intro W1 hA1 hb1)
  clear hp1 hO hB
  have hin2 : (i : Int) ≤ (n1 : Int) := by omega
  have hin3 : ((i : Int) + 1) ≤ (xs.length : Int) := by omega
  refine region_tail (C := fun w' => w' = W1.drew) 7 (by kernel_rfl) (by kernel_rfl) rfl ?_
  simp only [List.take_succ_cons, List.take_zero, List.drop_succ_cons, List.drop_zero]
  go_big_quiet_step (fail)
  go_big_quiet_step (fail)
  go_big_quiet_step (fail)
  go_big_quiet_step (fail)
  go_big_quiet_step (fail)
  go_big_quiet_step (fail)
  go_big_quiet_step (fail)
  refine wpQuiet_nil ?_
  intro w' hw'
  subst hw'
  have hcopy : ∀ (W : World), Below w.heap.size w W → ∀ (j : Nat) (v : Value), X2[j]? = some v → W.cell? ((⟨b, off + (i + 1) * 2, none⟩ : Addr).add j) = some v := fun W hW j v h => by
    rw [show (⟨b, off + (i + 1) * 2, none⟩ : Addr).add j = ⟨b, off + ((i + 1) * 2 + j), none⟩ by unfold Addr.add; split <;> simp_all [Nat.add_assoc]]
    exact hcp W hW _ _ (s2 j v h)
  refine wpList_copyN rfl (.tmp 17) (.tmp 21) 23 23 rfl 31 2 Try.underlying23 (by kernel_rfl) _ _ (n1 - i) (n1 - i) (xs.length - (i + 1)) (cap - (i + 1)) (by rfl) (by rfl) w.heap.size (i * 2) (splice Z 0 X1) 31 hA1.out X2 ?_ ?_ ?_ o2 w.heap.size w hb1.drew (Nat.le_refl _) ?_
  · rw [hl2, show Nat.min (xs.length - (i + 1)) (n1 - i) = n1 - i from Nat.min_eq_right (by omega)]
  · intro h0
    rw [show Nat.min (xs.length - (i + 1)) (n1 - i) = n1 - i from Nat.min_eq_right (by omega)] at h0
    refine ⟨?_, ?_⟩
    · rw [if_neg (by omega)]
    · rw [if_neg (by omega)]
      exact ⟨_, rfl, hcopy _ hb1.drew⟩
  · rw [hl2]
    have : (splice Z 0 X1).length = Z.length := length_splice _ _ _ (by rw [hl1, hZl]; omega)
    rw [this, hZl]; omega
  · intro W2 hA2 hb2
    have hA3 := hA2.out
    rw [hf.out] at hA3
    have ho := own_at W2 w.heap.size w.heap.size 31 (xs.eraseIdx i) hA3 (Nat.le_refl _) (by rw [HLE.out]; omega)
    rw [HLE.out] at ho
    have HO := Lib.hid ho
    clear ho hA3 hA2 hcopy hcp
    generalize (if n1 = i then (some ⟨w.heap.size, 0, none⟩ : Option Addr) else some ⟨w.heap.size, i * 2, none⟩) = Q1
    generalize (if cap = i + 1 then (some ⟨b, off, none⟩ : Option Addr) else some ⟨b, off + (i + 1) * 2, none⟩) = Q2
    go_wp2
    go_ret
    exact ⟨_, rfl, by rw [HLE.out]; exact HO.out, hb2⟩
end Go.Proofs.Yteadhnpmmpninaa
namespace Go.PM
open Go.RowKit
/-- the first k moves are redirected -/
def redK (d : Mv) (xs : List Mv) (k : Nat) : List Mv := redM d (xs.take k) ++ xs.drop k
theorem redK_len (d : Mv) (xs : List Mv) (k : Nat) : (redK d xs k).length = xs.length := by
  unfold redK
  rw [List.length_append, redM_len, List.length_take, List.length_drop]; omega
theorem redK_zero (d : Mv) (xs : List Mv) : redK d xs 0 = xs := by
  unfold redK redM
  simp [instM]
theorem redK_full (d : Mv) (xs : List Mv) : redK d xs xs.length = redM d xs := by
  unfold redK; simp
def redB (d : Mv) (m : Mv) : Bool := decide (m.2 = d.2) && !isD d.2
theorem redM_append (d : Mv) (xs ys : List Mv) : redM d (xs ++ ys) = redM d xs ++ redM d ys := by
  unfold redM; split
  · rfl
  · simp [instM]
theorem redM_one (d m : Mv) : redM d [m] = [if redB d m = true then (m.1, d.1) else m] := by
  unfold redM redB instM
  by_cases h : isD d.2 = true
  · rw [if_pos h, h]; simp
  · rw [if_neg h]
    have : isD d.2 = false := by simpa using h
    rw [this]
    by_cases h2 : m.2 = d.2
    · simp [h2]
    · simp [h2]
theorem redK_at (d : Mv) (xs : List Mv) (k : Nat) (hk : k < xs.length) : (redK d xs k)[k]? = some xs[k] := by
  unfold redK
  rw [List.getElem?_append_right (by rw [redM_len, List.length_take]; omega), redM_len, List.length_take, List.getElem?_drop]
  rw [show k + (k - min k xs.length) = k by omega, List.getElem?_eq_getElem hk]
theorem redK_succ (d : Mv) (xs : List Mv) (k : Nat) (hk : k < xs.length) : redK d xs (k + 1) = (redK d xs k).set k (if redB d xs[k] = true then (xs[k].1, d.1) else xs[k]) := by
  have hl : (redM d (xs.take k)).length = k := by rw [redM_len, List.length_take]; omega
  unfold redK
  rw [take_snoc xs k hk, redM_append, redM_one, List.set_append_right _ _ (by omega), hl, Nat.sub_self, List.drop_eq_getElem_cons hk, List.set_cons_zero, List.append_assoc]
  rfl
theorem mcells_set2 (xs : List Mv) (k : Nat) (hk : k < xs.length) (s : ByteArray) : (mcells xs).set (k * 2 + 1) (.string s) = mcells (xs.set k (xs[k].1, s)) := by
  induction xs generalizing k with
  | nil => simp at hk
  | cons x xs ih =>
    cases k with
    | zero => simp [mcells]
    | succ k =>
      have := ih k (by simpa using hk)
      rw [mcells_cons, List.set_cons_succ, show (k + 1) * 2 = k * 2 + 1 + 1 by omega, List.set_cons_succ, this, List.set_cons_succ, mcells_cons]
      rfl
end Go.PM
namespace Go.Proofs.Yteadhnpmmpninaa
open Go.RowKit Go.PM

end Go.Proofs.Yteadhnpmmpninaa
namespace Go.PM
open Go.RowKit
def lenV : Value → Nat
  | .slice _ n _ => n
  | _ => 0
/-- the list that an iterator holds: the one that it began with, or a row of its own apart from the row r -/
def HeldW (B : Nat) (e : TypeId) (v : Value) (xs : List Mv) (r : Option Nat) (A : World) (wv : Value) (ws : List Mv) : Prop :=
  (wv = v ∧ ws = xs) ∨ (A.ownsRow B e 2 wv ws.length (mcells ws) ∧ ∀ g, wv.ownBlock = some g → r ≠ some g)
theorem grown_cell (W : World) (a : Addr) (v : Value) : W.grownBy (W.setCell a v) (some a.block) :=
  ⟨rfl, rfl, rfl, by simp [World.size_setCell], fun k _ hne => heap_setCell_other W a k v (fun e => hne (by rw [e]))⟩
theorem own_blk {w : World} {base : Nat} {e : TypeId} {size n g : Nat} {v : Value} {cs : List Value} (h : w.ownsRow base e size v n cs) (hg : v.ownBlock = some g) : g < w.heap.size ∧ base ≤ g := by
  refine ⟨?_, own_block_ge h g hg⟩
  rcases h.2 with ⟨rfl, _⟩ | ⟨g', cap, cur, rfl, _, hh, _⟩
  · cases hg
  · cases hg
    exact (Array.getElem?_eq_some_iff.1 hh).1
theorem HeldW.rd {B : Nat} {e : TypeId} {v : Value} {xs : List Mv} {r : Option Nat} {A : World} {wv : Value} {ws : List Mv} (h : HeldW B e v xs r A wv ws) (hx : RdM A v xs) : RdM A wv ws := by
  rcases h with ⟨rfl, rfl⟩ | ⟨h, _⟩
  · exact hx
  · exact Rd.of_own h
theorem HeldW.below {B : Nat} {e : TypeId} {v : Value} {xs : List Mv} {r : Option Nat} {A A' : World} {wv : Value} {ws : List Mv} (h : HeldW B e v xs r A wv ws) (hb : Below A.heap.size A A') : HeldW B e v xs r A' wv ws := by
  rcases h with h | ⟨h, h2⟩
  · exact .inl h
  · exact .inr ⟨own_keep h hb, h2⟩
theorem HeldW.step {B : Nat} {e : TypeId} {v : Value} {xs : List Mv} {r r' : Option Nat} {A A' : World} {wv : Value} {ws : List Mv} (h : HeldW B e v xs r A wv ws) (hs : RowStep B r r' A A') : HeldW B e v xs r' A' wv ws := by
  rcases h with h | ⟨h, h2⟩
  · exact .inl h
  · refine .inr ⟨⟨h.1, ?_⟩, fun g hg e => ?_⟩
    · rcases h.2 with h' | ⟨g, cap, cur, rfl, hbg, hh, hr⟩
      · exact .inl h'
      · have hlt := (Array.getElem?_eq_some_iff.1 hh).1
        exact .inr ⟨g, cap, cur, rfl, hbg, (hs.same g hbg hlt (fun e => h2 g rfl e.symm)).trans hh, hr⟩
    · have hb := own_blk h hg
      rcases hs.row with h3 | h3
      · exact h2 g hg (by rw [← h3]; exact e)
      · have := h3 g e; omega
theorem HeldW.new {B : Nat} {e : TypeId} {v : Value} {xs : List Mv} {r : Option Nat} {A A' : World} {wv : Value} {ws : List Mv} (h : A'.ownsRow A.heap.size e 2 wv ws.length (mcells ws)) (hB : B ≤ A.heap.size) (hr : ∀ g, r = some g → g < A.heap.size) : HeldW B e v xs r A' wv ws := by
  refine .inr ⟨own_more h hB, fun g hg e => ?_⟩
  have h1 := (own_blk h hg).2
  have := hr g e
  omega
end Go.PM
namespace Go.Proofs.Yteadhnpmmpninaa
open Go.RowKit Go.PM

set_option maxRecDepth 100000 in
set_option maxHeartbeats 1600000 in
theorem taken_iter (xs : List Mv) (v : Value) (b1 n : Nat) (hn : 1 ≤ n) (hW : Wt xs) (hl : xs.length ≤ 9) :
    IterR (fun A => At A b1 23 #[v] ∧ RdM A v xs) Fence.wide n Try.prog 111 (fun y => #[] ++ #[y] ++ #[.pointer (some ⟨b1, 0, none⟩)]) (fun m : Mv => #[.agg #[.string m.1, .string m.2]]) (takF 9 xs) := by
  intro l J r0 W hJ hP hY h0
  obtain ⟨⟨hA1, hx0⟩, hr0⟩ := hP _ _ _ h0
  have c1 : W.cell? ⟨b1, 0, none⟩ = some v := hA1.cell 0
  have HF := Lib.hid (fun ws wv A hx hl hp => firstAhead_c ws wv A hx (by omega : ws.length ≤ 1048576) hp)
  have HWO := Lib.hid (fun ws wv i hi A hx hl => without_c ws wv i hi A hx (by omega : ws.length ≤ 1048576))
  refine callsIn_of_wp Try.func111 rfl trivial ?_ rfl
  simp only [Try.ntmps111, List.size_toArray, List.length_cons, List.length_nil, Nat.reduceAdd, Nat.reduceSub, Array.replicate_succ, Array.replicate_zero, List.push_toArray, List.append_toArray, List.nil_append, List.cons_append]
  gi_wp2_with fail
  refine ⟨trivial, callsIn_wide.2 ((HF.out xs v _ hx0 (by omega) hW.to_).mono ?_)⟩
  rintro e w1 ⟨rfl, hb1⟩
  have hJ1 : J r0 [] w1 := hJ _ _ _ _ none h0 (grown_below hb1 none) (fun r e => by cases e)
  have hs1 := hb1.size
  clear c1 hA1 hx0
  gi_wp2
  gi_loopw [3, 4] (fun wv iv wr => ∃ (pre ws : List Mv) (r : Option Nat) (k : Nat), iv = .int .i64 (aheadZ ws) ∧ Hid (pre ++ takF k ws = takF 9 xs ∧ Wt ws) ∧ ws.length ≤ k ∧ ws.length ≤ 9 ∧ lenV wv = ws.length ∧ J r pre wr ∧ HeldW W.heap.size 31 v xs r wr wv ws ∧ W.heap.size ≤ wr.heap.size) (fun wv _ _ => lenV wv)
  case atStart =>
    obtain ⟨A, cap, e, _⟩ := (hP _ _ _ hJ1).1.2
    exact ⟨[], xs, r0, 9, rfl, ⟨rfl, hW⟩, hl, hl, by rw [e]; rfl, hJ1, .inl ⟨rfl, rfl⟩, hs1⟩
  case round =>
    obtain ⟨pre, ws, r, k, rfl, hpr, hk, h9, hlv, hj, hh, hsz⟩ := hrel
    obtain ⟨⟨_, hxr⟩, hrr⟩ := hP _ _ _ hj
    have hrd := hh.rd hxr
    rcases aheadZ_lt ws with hz | ⟨i, hi, hz, ha⟩
    · have hdone : J r (takF 9 xs) wr := by
        have := hpr.out.1
        rw [takF_none (aheadI_of_neg hz), List.append_nil] at this
        rw [← this]; exact hj
      rw [hz]
      gi_wp2
      go_end0
      exact ⟨⟨_, rfl⟩, r, hdone⟩
    · obtain ⟨k, rfl⟩ : ∃ k', k = k' + 1 := ⟨k - 1, by omega⟩
      have htk := takF_some (n := k) hi ha
      have hpx : pre ++ [ws[i]] <+: takF 9 xs := by
        rw [← hpr.out.1, htk]
        exact ⟨takF k (ws.eraseIdx i), by simp⟩
      have hyl := hY r pre ws[i] wr hj hsz hpx
      have hnx : Hid ((pre ++ [ws[i]]) ++ takF k (ws.eraseIdx i) = takF 9 xs ∧ Wt (ws.eraseIdx i)) := ⟨by rw [← hpr.out.1, htk]; simp, hpr.out.2.erase i⟩
      have hlen2 : (ws.eraseIdx i).length + 1 = ws.length := by rw [List.length_eraseIdx_of_lt hi]; omega
      obtain ⟨A, cap, rfl, hn1, hc1, hcell⟩ := hrd.open
      obtain ⟨b, off, rfl, hbl, d1, d2⟩ := hcell i hi
      have i0 : (0 : Int) ≤ (i : Int) := by omega
      have i1 : (i : Int) < (ws.length : Int) := by omega
      obtain ⟨fn, tmps, assign, body, hy, hR⟩ := hyl
      have HZ := Lib.hid hz
      rw [hz]
      clear hz ha htk hpx hcell hpr
      generalize hxm : ws[i] = m at *
      clear hxm
      gi_wp2
      refine hR.mono ?_
      rintro e W3 ⟨rfl, r', hJ3, hst⟩
      have hh3 := hh.step hst
      have hs3 := Nat.le_trans hsz hst.size
      obtain ⟨⟨_, hx3⟩, hr3⟩ := hP _ _ _ hJ3
      have hrd3 := hh3.rd hx3
      clear hrd hxr hrr hh hj d1 d2 hbl hst hR hy
      gi_wp2_with fail
      refine ⟨trivial, callsIn_wide.2 ((HWO.out ws _ i hi W3 hrd3 (by omega)).mono ?_)⟩
      rintro e W4 ⟨v4, rfl, ho4, hb4⟩
      have hh4 : HeldW W.heap.size 31 v xs r' W4 v4 (ws.eraseIdx i) := HeldW.new ho4 hs3 hr3
      have hJ4 : J r' (pre ++ [m]) W4 := hJ _ _ _ _ none hJ3 (grown_below hb4 none) (fun r e => by cases e)
      have hs4 := Nat.le_trans hs3 hb4.size
      have hrd4 : RdM W4 v4 (ws.eraseIdx i) := Rd.of_own ho4
      have hl4 : lenV v4 = (ws.eraseIdx i).length := by obtain ⟨A4, cap4, e4, _⟩ := hrd4; rw [e4]; rfl
      clear ho4 hh3 hJ3 hx3 hr3 hrd3 hb4
      generalize ws.eraseIdx i = ws2 at *
      gi_wp2_with fail
      refine ⟨trivial, callsIn_wide.2 ((HF.out ws2 v4 _ hrd4 (by omega) hnx.out.2.to_).mono ?_)⟩
      rintro e W5 ⟨rfl, hb5⟩
      have hh5 := hh4.below hb5
      have hJ5 : J r' (pre ++ [m]) W5 := hJ _ _ _ _ none hJ4 (grown_below hb5 none) (fun r e => by cases e)
      have hs5 := Nat.le_trans hs4 hb5.size
      clear hh4 hJ4 hrd4 hb5
      gi_wp2
      go_roundw
      case rel => exact ⟨pre ++ [m], ws2, r', k, rfl, hnx, by omega, by omega, hl4, hJ5, hh5, hs5⟩
      case measure => rw [hl4]; show _ < ws.length; omega
end Go.Proofs.Yteadhnpmmpninaa
namespace Go.PM
open Go.RowKit
theorem leastK_ex {P : Nat → Prop} : ∀ n, P n → ∃ m, P m ∧ ∀ k, P k → m ≤ k := by
  intro n
  induction n using Nat.strongRecOn with
  | ind n ih =>
    intro h
    by_cases h2 : ∃ m, m < n ∧ P m
    · obtain ⟨m, h3, h4⟩ := h2; exact ih m h3 h4
    · exact ⟨n, h, fun k hk => Nat.le_of_not_lt fun hlt => h2 ⟨k, hlt, hk⟩⟩
open Classical in
/-- the least number of which P holds -/
noncomputable def leastK (P : Nat → Prop) : Nat := if h : ∃ m, P m ∧ ∀ k, P k → m ≤ k then Classical.choose h else 0
theorem leastK_spec {P : Nat → Prop} (h : ∃ n, P n) : P (leastK P) ∧ ∀ k, P k → leastK P ≤ k := by
  obtain ⟨n, hn⟩ := h
  have hx := leastK_ex n hn
  unfold leastK
  rw [dif_pos hx]
  exact Classical.choose_spec hx
/-- what the ordering holds at the head of a round: k steps are enough for what waits -/
def OrdR (B : Nat) (e : TypeId) (v : Value) (xs : List Mv) (J : Option Nat → List Mv → World → Prop) (k : Nat) (wv : Value) (A : World) : Prop :=
  ∃ (pre ws : List Mv) (r : Option Nat), pre ++ ordF k ws = ordF 19 xs ∧ Wt ws ∧ muW ws ≤ k ∧ ws.length ≤ 9 ∧ J r pre A ∧ HeldW B e v xs r A wv ws ∧ B ≤ A.heap.size
end Go.PM
namespace Go.Proofs.Yteadhnpmmpninaa
open Go.RowKit Go.PM

end Go.Proofs.Yteadhnpmmpninaa
namespace Go.PM
open Go.RowKit
/-- the moves without idle ones, in the order of their places; none where they are not valid -/
def bioM (xs : List Mv) : List Mv := if mvalid xs then busyF xs 9 else []
theorem bioM_yes {xs : List Mv} (h : MV xs) : bioM xs = busyF xs 9 := if_pos (by simpa [mvalid] using h)
theorem bioM_no {xs : List Mv} (h : ¬ MV xs) : bioM xs = [] := if_neg (by simpa [mvalid] using h)
theorem bioM_len (xs : List Mv) : (bioM xs).length ≤ 9 := by
  unfold bioM; split
  · exact busyF_len xs 9
  · simp
theorem Wt_nil : Wt [] := ⟨by simp, by simp, by simp, by simp, by simp [rdN]⟩
theorem bioM_Wt (xs : List Mv) : Wt (bioM xs) := by
  by_cases h : MV xs
  · rw [bioM_yes h]; exact busyF_Wt h
  · rw [bioM_no h]; exact Wt_nil
theorem bioM_tab {xs : List Mv} (h : MV xs) : mvT (noIdle (tabOf xs)) (List.range 9) = bioM xs := by
  rw [mvT_idle, bioM_yes h]
  exact lsF_congr fun p hp => srcT_M h hp
theorem bioM_zero {xs : List Mv} (h : ¬ MV xs) : mvT (noIdle (fun _ => emp)) (List.range 9) = bioM xs := by
  rw [mvT_idle, bioM_no h, ← lsF_nm]
  exact lsF_congr fun p _ => srcT_zero p
theorem ordM_bio (xs : List Mv) : ordM xs = ordF 19 (bioM xs) := by
  by_cases h : MV xs
  · rw [bioM_yes h]; unfold ordM; rw [if_pos (by simpa [mvalid] using h)]
  · rw [bioM_no h, ordF_nil]; unfold ordM; rw [if_neg (by simpa [mvalid] using h)]
theorem stL_len (ms : List Mv) : (stL ms).length = ms.length := by simp [stL]
theorem ordM_len (xs : List Mv) : (ordM xs).length ≤ 19 := by
  unfold ordM; split
  · exact ordF_len _ _
  · simp
theorem wspM_len (xs : List Mv) : (wspM xs).length ≤ 9 := by
  unfold wspM; split
  · have h1 := takF_len 9 (busyF xs 9)
    have h2 := busyF_len xs 9
    unfold takM; omega
  · simp
theorem takF_nil (n : Nat) : takF n [] = [] := takF_none rfl
end Go.PM
namespace Go.Proofs.Yteadhnpmmpninaa
open Go.RowKit Go.PM
attribute [local go_sem] Oper.semAt_some

theorem takenAhead_c (A : Option Addr) (n c : Nat) (w : World) :
    Calls Try.prog 70 #[.slice A n c] w fun e w' => e = .returned (.func (.func 111) #[] #[.pointer (some ⟨w.heap.size, 0, none⟩)]) ∧ w.alloc (.cells #[.slice A n c] 23) = w' := by
  go_enter Try.func70, Try.ntmps70
  go_wp2
  go_ret
  exact ⟨rfl, rfl⟩
end Go.Proofs.Yteadhnpmmpninaa
namespace Go.PS
open Go.PM Go.RowKit
theorem tabC_congr {f g : Nat → ByteArray} (h : ∀ p, p < 9 → f p = g p) : tabC f = tabC g := by
  unfold tabC
  rw [h 0 (by omega), h 1 (by omega), h 2 (by omega), h 3 (by omega), h 4 (by omega), h 5 (by omega), h 6 (by omega), h 7 (by omega), h 8 (by omega)]
theorem del_set {f : Nat → ByteArray} {T : List Mv} {m : Mv} (hm : isP m.1 = true) : (tabC (delF f T)).setIfInBounds (pidx m.1) (.string emp) = tabC (delF f (T ++ [m])) := by
  rw [tabC_set _ _ (pidx_spec hm).1]
  exact tabC_congr fun p hp => delF_snoc f T m hm p hp
end Go.PS
namespace Go.Proofs.Yteadhnpmmpninaa
open Go.RowKit Go.PM Go.PS Go.PW Go.Lib
attribute [local go_sem] Oper.semAt_some

theorem wpIn_noP {F : Fence} {n : Nat} {P : Program} {c : Code} {K : Act → World → Prop} {Q : Exit → Act → World → Prop} {a : Act} {w : World} (h : c.wpIn F n P (Exit.then K (fun _ _ _ => False)) a w) : c.wpIn F n P (Exit.then K Q) a w :=
  Code.wpIn_mono (fun e a w h => by cases e <;> first | exact h | exact h.elim) h
theorem opIn_row {F : Fence} {n : Nat} {o : Oper} {a : Act} {w : World} {K : Act → World → Prop} {Q : Exit → Act → World → Prop} (_hgd : o.guard = none) (ty : TypeId) (x : Operand) (ho : o.op = .load ty x) (b : Nat) (t : TypeId) (cs : Array Value) (hA : At w b t cs) (hx : a.eval x = .pointer (some ⟨b, 0, none⟩))
    (k : Nat) (e : TypeId) (hu : Try.prog.underlying ty = some (.array k e)) (hi : (Try.prog.info? ty).map (·.size) = some cs.size) (h : K (a.put o.dst (.agg cs)) w) : o.wpIn F n Try.prog a w K Q := by
  unfold Oper.wpIn
  refine ⟨?_, ?_⟩
  · simp [Oper.about, ho]
  · rw [Oper.semAt_plain F _ _ (by rw [ho]; intro c hc'; cases hc')]
    simp only [execOp, ho, hx, Instr.loadAt, Instr.sureAddr, Sem.run_bind, Sem.run_pure, Result.andThen_ok, run_loadVar_row w b t ty cs (0, 0) _ hA hu rfl hi]
    exact h
set_option maxRecDepth 100000 in
set_option maxHeartbeats 4000000 in
theorem imOrderWithSwaps_yes (xs : List Mv) (h1 : MV xs) (v : Value) (w : World) (hx : RdM w v xs) :
    Calls Try.prog 33 #[v] w fun e w' => ∃ v', e = .returned (.tuple #[v', .bool true]) ∧ w'.ownsRow w.heap.size 33 3 v' (owS xs).length (scells (owS xs)) ∧ Below w.heap.size w w' := by
  have HT := Lib.hid (tableOf_yes xs h1 v w hx)
  have HLI := Lib.hid (fun W => list_c (noIdle (tabOf xs)) W)
  rw [bioM_tab h1] at HLI
  have HWT := Lib.hid (bioM_Wt xs)
  have HLN := Lib.hid (bioM_len xs)
  have HPE := Lib.hid (fun W => permutationOf_c (delF (tabOf xs) (takM xs)) (del_exch h1) W)
  have HRS := Lib.hid (fun b W hA => ringSwaps_c (invI (srcT (delF (tabOf xs) (takM xs)))) (inv_prm (del_exch h1)) b W hA)
  have HRW := Lib.hid (rw_del h1)
  have HOW := Lib.hid (owS_yes (xs := xs) (by simpa [mvalid] using h1))
  have HTK : Hid (takM xs = takF 9 (bioM xs)) := by show _ = _; rw [bioM_yes h1]; rfl
  have HD0 := Lib.hid (delF_nil (tabOf xs))
  have HDS := Lib.hid (fun T m hm p hp => delF_snoc (tabOf xs) T m hm p hp)
  have HID := Lib.hid (fun W => idle_c (tabOf xs) W)
  have HRL := Lib.hid (rwM_le h1)
  have HDB : Hid (∀ m ∈ bioM xs, isP m.1 = true) := (bioM_Wt xs).to_
  clear hx h1
  generalize hbs : bioM xs = bs at *
  generalize tabOf xs = f at *
  refine (callsIn_wide (n := 5)).1 ?_
  refine callsIn_of_wp_marks Try.func33 rfl trivial ?_ rfl
  simp only [Try.ntmps33, List.size_toArray, List.length_cons, List.length_nil, Nat.reduceAdd, Nat.reduceSub, Array.replicate_succ, Array.replicate_zero, List.push_toArray, List.append_toArray, List.nil_append, List.cons_append]
  gi_wp2_with fail
  refine ⟨trivial, callsIn_wide.2 (HT.out.mono ?_)⟩
  rintro e w1 ⟨rfl, hb1⟩
  have hs1 := hb1.size
  have k1 : At (w1.alloc (.cells (tabA f) 56)) w1.heap.size 56 (tabC f) := At.new w1 _ _
  gi_wp2_with (refine ldIn_row rfl 56 (.tmp 4) rfl w1.heap.size 56 (tabC f) (k1.alloc _) (by rfl) 9 9 Try.underlying56 (by kernel_rfl) ?_; refine held ?_)
  unfold Held
  gi_wp2_with fail
  refine ⟨trivial, callsIn_wide.2 ((HID.out _).mono ?_)⟩
  rintro e w2 ⟨rfl, hb2⟩
  have kt0 : At ((w1.alloc (.cells (tabA f) 56)).alloc (.cells #[.slice none 0 0] 25)) w1.heap.size 56 (tabC f) := k1.alloc _
  have ks0 : At ((w1.alloc (.cells (tabA f) 56)).alloc (.cells #[.slice none 0 0] 25)) (w1.heap.size + 1) 25 #[.slice none 0 0] := by
    have := At.new (w1.alloc (.cells (tabA f) 56)) 25 #[.slice none 0 0]
    rwa [World.size_alloc] at this
  have hB1 : Below w.heap.size w ((w1.alloc (.cells (tabA f) 56)).alloc (.cells #[.slice none 0 0] 25)) := (hb1.alloc hs1 _).alloc (by simp; omega) _
  have kt2 := kt0.keep hb2
  have ks2 := ks0.keep hb2
  have hB2 := hB1.trans (hb2.mono hB1.size)
  have hs2 := hB2.size
  clear hb1 k1 kt0 ks0 hB1 hb2
  gi_wp2_with fail
  refine ⟨trivial, callsIn_wide.2 ((HLI.out _).mono ?_)⟩
  rintro e w3 ⟨v3, rfl, ho3, hb3⟩
  have kt3 := kt2.keep hb3
  have ks3 := ks2.keep hb3
  have hB3 := hB2.trans (hb3.mono hs2)
  have hs3 := hB3.size
  have hl2 := kt2.lt
  have hl3 := ks2.lt
  obtain ⟨A3, c3, rfl, _⟩ := Rd.of_own ho3
  clear hb3 hB2 kt2 ks2
  gi_wp2_with fail
  refine ⟨trivial, callsIn_wide.2 ((takenAhead_c _ _ _ _).mono ?_)⟩
  rintro e wq ⟨rfl, rfl⟩
  have hax : Below w3.heap.size w3 (w3.alloc (.cells #[.slice A3 bs.length c3] 23)) := (Below.refl _ _).alloc (Nat.le_refl _) _
  have kt4 := kt3.keep hax
  have ks4 := ks3.keep hax
  have ho4 := own_keep ho3 hax
  have hB4 := hB3.trans (hax.mono hs3)
  have hA4 : At (w3.alloc (.cells #[.slice A3 bs.length c3] 23)) w3.heap.size 23 #[.slice A3 bs.length c3] := At.new _ _ _
  obtain ⟨W0, hW0⟩ : ∃ W0, W0 = w3.alloc (.cells #[.slice A3 bs.length c3] 23) := ⟨_, rfl⟩
  have hS0 : W0.heap.size = w3.heap.size + 1 := by rw [hW0]; simp
  rw [← hW0] at kt4 ks4 ho4 hB4 hA4 ⊢
  have hz3 := ks3.lt
  have HBz := Lib.hid (show w.heap.size ≤ w1.heap.size from hs1)
  clear hax hB3 kt3 ks3 ho3 hW0
  gi_wp2
  refine range_lawR (F := Fence.wide) (gf := 111) (lf := #[]) (lb := #[.pointer (some ⟨w3.heap.size, 0, none⟩)]) (Pr := fun A => At A w3.heap.size 23 #[.slice A3 bs.length c3] ∧ RdM A (.slice A3 bs.length c3) bs) rfl (by decide) rfl trivial (fun _ _ => rfl) (encs := fun m : Mv => #[.agg #[.string m.1, .string m.2]]) (xs := takF 9 bs)
    (taken_iter bs _ w3.heap.size 4 (by omega) HWT.out HLN.out) (fun _ => rfl)
    (fun r pre W => (∃ o, RowAt W (w1.heap.size + 1) 25 (W0.heap.size + 2) 33 3 r (stL pre).length (scells (stL pre)) o) ∧ At W w1.heap.size 56 (tabC (delF f pre)) ∧ At W w3.heap.size 23 #[.slice A3 bs.length c3] ∧ W.ownsRow w2.heap.size 31 2 (.slice A3 bs.length c3) bs.length (mcells bs) ∧ Below w.heap.size w W) none ?_ ?_ ?_
    (fun m a' W => ∃ b, At W b 31 #[.string m.1, .string m.2] ∧ W0.heap.size ≤ b ∧ a' = { tmps := #[v, undef, .slice none 0 0, .bool false, .pointer (some ⟨w1.heap.size, 0, none⟩), .bool true, .pointer (some ⟨w1.heap.size + 1, 0, none⟩), .pointer (some ⟨b, 0, none⟩), undef, undef, .tuple #[tabX f, .bool true], v, .tuple #[tabX f, .bool true], tabX f, .bool true, .bool true, .bool false, .agg (tabC f), tabX (mixG (noIdle f) f 9), .slice A3 bs.length c3, .func (.func 111) #[] #[.pointer (some ⟨w3.heap.size, 0, none⟩)], .agg #[.string m.1, .string m.2], undef, undef, undef, undef, undef, undef, undef, undef, undef, undef, undef, undef, undef, undef, undef, undef, undef, undef], defers := [] }) ?_ ?_ ?_ ?_
  · rintro r pre A ⟨⟨o, ho⟩, h2, h3, h4, h5⟩
    exact ⟨⟨h3, Rd.of_own h4⟩, ho.lives⟩
  · rintro r s A A' row ⟨⟨o, ho⟩, h2, h3, h4, h5⟩ hg hr
    exact ⟨⟨o, ho.turn hg (fun q e => (hr q e).2)⟩, h2.turn hg (fun q e => (hr q e).2), h3.turn hg (fun q e => (hr q e).2), own_turn h4 hg (fun q e => (hr q e).2), h5.trans (below_grown hg h5.size (fun g e => by have := (hr g e).1; omega))⟩
  · exact ⟨⟨_, ks4, ⟨rfl, .inl ⟨rfl, rfl⟩⟩, rfl⟩, by rw [HD0.out]; exact kt4, hA4, ho4, hB4⟩
  · rintro m a' s A A' row ⟨b, k1, kb, k2⟩ hg hr
    exact ⟨b, k1.turn hg (fun r e => (hr r e).2), kb, k2⟩
  · intro l r pre m W K hI hp hsz hK
    obtain ⟨⟨o, k1, k2, k3⟩, h2, h3, h4, h5⟩ := hI
    have hbl : Below W.heap.size W (W.alloc (.cells #[.string m.1, .string m.2] 31)) := (Below.refl _ _).alloc (Nat.le_refl _) _
    have r1 : (∃ o, RowAt (W.alloc (.cells #[.string m.1, .string m.2] 31)) (w1.heap.size + 1) 25 (W0.heap.size + 2) 33 3 r (stL pre).length (scells (stL pre)) o) ∧ At (W.alloc (.cells #[.string m.1, .string m.2] 31)) w1.heap.size 56 (tabC (delF f pre)) ∧ At (W.alloc (.cells #[.string m.1, .string m.2] 31)) w3.heap.size 23 #[.slice A3 bs.length c3] ∧ (W.alloc (.cells #[.string m.1, .string m.2] 31)).ownsRow w2.heap.size 31 2 (.slice A3 bs.length c3) bs.length (mcells bs) ∧ Below w.heap.size w (W.alloc (.cells #[.string m.1, .string m.2] 31)) :=
      ⟨⟨o, k1.alloc _, own_keep k2 hbl, k3⟩, h2.alloc _, h3.alloc _, own_keep h4 hbl, h5.alloc h5.size _⟩
    have r2 := At.new W 31 #[.string m.1, .string m.2]
    have hW0W : W0.heap.size ≤ W.heap.size := by omega
    clear k1 k2 k3 h2 h3 h4 h5
    gi_wp2
    exact hK _ _ hbl r1 ⟨_, r2, hW0W, rfl⟩
  · rintro l r pre m a' W ⟨⟨o, k1, k2, k0⟩, kt, ka, kv, k3⟩ ⟨b, q1, hb0, rfl⟩ hp hsz
    have hmp : isP m.1 = true := HDB.out m (tak_sub 9 bs m (hp.mem (by simp)))
    have hlp := pidx_spec hmp
    have hpl : pre.length + 1 ≤ 9 := by
      have h1 := hp.length_le
      have h2 := takF_len 9 bs
      have := HLN.out
      simp at h1; omega
    have hpn : (stL (pre ++ [m])).length = (stL pre).length + 1 := by simp [stL]
    have hps : (stL pre).length = pre.length := by simp [stL]
    have c0 : W.cell? ⟨b, 0, none⟩ = some (.string m.1) := q1.cell 0
    have c1 : W.cell? ⟨b, 1, none⟩ = some (.string m.2) := q1.cell 1
    have cs3 : W.cell? ⟨w1.heap.size + 1, 0, none⟩ = some o := k1.cell 0
    have hl1 := k1.lt
    have hlb := q1.lt
    have HIX := Lib.hid (fun W' => indexOf_yes m.1 hmp W')
    have HDE := Lib.hid (del_set (f := f) (T := pre) hmp)
    have hnw := three_new W (.int .i64 0) (.string m.1) (.string m.2) 33
    gi_wp2_with (gi_at_builtin; refine held ?_)
    unfold Held
    obtain ⟨i0, hi0, hz0, hz1, hz2⟩ := info_parts infoSt3
    refine wpListIn_lies rfl (.tmp 22) (.tmp 25) 25 rfl (W0.heap.size + 2) 33 i0 _ 3 40 Try.underlying25 hi0 hz0 hz1 hz2 rfl (by omega) o (stL pre).length (scells (stL pre)) (by rfl) (own_keep k2 ((Below.refl _ _).alloc (Nat.le_refl _) _)) ⟨W.heap.size, 0, none⟩ 1 1 [Value.int .i64 0, Value.string m.1, Value.string m.2] (by rfl) rfl hnw
      (by intro u hu; simp at hu; rcases hu with rfl | rfl | rfl <;> rfl) (by omega) (by simp only [maxLen]; omega) (by omega) (by simp; omega) ?_
    intro g cap W3 hown3 hgrow3 hlies hg3
    have hax : Below W.heap.size W (W.alloc (.cells #[.int .i64 0, .string m.1, .string m.2] 33)) := (Below.refl _ _).alloc (Nat.le_refl _) _
    have k2a := own_keep k2 hax
    have j1 := at_grown' (k1.keep hax) hgrow3 (box_apart k2a (k1.keep hax) (by decide))
    have jt := at_grown' (kt.keep hax) hgrow3 (box_apart k2a (kt.keep hax) (by decide))
    have ja := at_grown' (ka.keep hax) hgrow3 (box_apart k2a (ka.keep hax) (by decide))
    have jq := at_grown' (q1.keep hax) hgrow3 (box_apart k2a (q1.keep hax) (by decide))
    have jv := own_grown (own_keep kv hax) hgrow3 (rows_neS (own_keep kv hax) k2a (by decide))
    have hge := own_block_ge k2
    have hcs : scells (stL pre) ++ [Value.int .i64 0, Value.string m.1, Value.string m.2] = scells (stL (pre ++ [m])) := by unfold stL; rw [List.map_append, scells_append]; simp [scells, stpM]
    rw [hcs, ← hpn] at hown3
    have s1 := grownBy_setCell' W3 (w1.heap.size + 1) (.slice (some ⟨g, 0, none⟩) ((stL pre).length + 1) cap)
    have s2 := grown_cellP (W3.setCell ⟨w1.heap.size + 1, 0, none⟩ (.slice (some ⟨g, 0, none⟩) ((stL pre).length + 1) cap)) ⟨w1.heap.size, pidx m.1, none⟩ (.string emp)
    have hge3 := own_block_ge hown3
    have m1 : At ((W3.setCell ⟨w1.heap.size + 1, 0, none⟩ (.slice (some ⟨g, 0, none⟩) ((stL pre).length + 1) cap)).setCell ⟨w1.heap.size, pidx m.1, none⟩ (.string emp)) (w1.heap.size + 1) 25 #[.slice (some ⟨g, 0, none⟩) ((stL pre).length + 1) cap] := at_grown' (j1.set 0 _) s2 (by simp)
    have mt : At ((W3.setCell ⟨w1.heap.size + 1, 0, none⟩ (.slice (some ⟨g, 0, none⟩) ((stL pre).length + 1) cap)).setCell ⟨w1.heap.size, pidx m.1, none⟩ (.string emp)) w1.heap.size 56 (tabC (delF f (pre ++ [m]))) := by
      have := (at_grown' jt s1 (by simp)).set (pidx m.1) (.string emp)
      rw [HDE.out] at this
      exact this
    have ma := at_grown' (at_grown' ja s1 (fun e => by simp at e; omega)) s2 (fun e => by simp at e; omega)
    have mv := own_grown (own_grown jv s1 (.inl fun e => by have q : w2.heap.size ≤ w1.heap.size + 1 := own_block_ge kv _ e; omega)) s2 (.inl fun e => by have q : w2.heap.size ≤ w1.heap.size := own_block_ge kv _ e; omega)
    have mr := own_grown (own_grown hown3 s1 (.inl fun e => by have q : W0.heap.size + 2 ≤ w1.heap.size + 1 := hge3 _ e; omega)) s2 (.inl fun e => by have q : W0.heap.size + 2 ≤ w1.heap.size := hge3 _ e; omega)
    have hB3 : Below w.heap.size w W3 := (k3.alloc k3.size _).trans (below_grown hgrow3 (by have := k3.size; simp; omega) (fun g e => by have := hge g e; have := hB4.size; omega))
    have hst : RowStep W0.heap.size r (some g) W ((W3.setCell ⟨w1.heap.size + 1, 0, none⟩ (.slice (some ⟨g, 0, none⟩) ((stL pre).length + 1) cap)).setCell ⟨w1.heap.size, pidx m.1, none⟩ (.string emp)) := by
      have hz3 := hgrow3.size
      simp at hz3
      refine ⟨by simp [World.size_setCell]; omega, fun k h1 h2 h3 => ?_, ?_⟩
      · rw [heap_setCell_other _ _ _ _ (by show k ≠ w1.heap.size; omega), heap_setCell_other _ _ _ _ (by show k ≠ w1.heap.size + 1; omega), hgrow3.block k (by simp; omega) (by rw [k0]; exact h3)]
        exact Below.heap_alloc _ _ _ h2
      · rcases hlies with h | h
        · exact .inl (by rw [← h, k0])
        · exact .inr fun q e => by cases e; rw [h]; simp
    rw [hpn] at mr
    have fin : ∃ r', ((∃ o, RowAt ((W3.setCell ⟨w1.heap.size + 1, 0, none⟩ (.slice (some ⟨g, 0, none⟩) ((stL pre).length + 1) cap)).setCell ⟨w1.heap.size, pidx m.1, none⟩ (.string emp)) (w1.heap.size + 1) 25 (W0.heap.size + 2) 33 3 r' (stL (pre ++ [m])).length (scells (stL (pre ++ [m]))) o) ∧ At ((W3.setCell ⟨w1.heap.size + 1, 0, none⟩ (.slice (some ⟨g, 0, none⟩) ((stL pre).length + 1) cap)).setCell ⟨w1.heap.size, pidx m.1, none⟩ (.string emp)) w1.heap.size 56 (tabC (delF f (pre ++ [m]))) ∧ At ((W3.setCell ⟨w1.heap.size + 1, 0, none⟩ (.slice (some ⟨g, 0, none⟩) ((stL pre).length + 1) cap)).setCell ⟨w1.heap.size, pidx m.1, none⟩ (.string emp)) w3.heap.size 23 #[.slice A3 bs.length c3] ∧ ((W3.setCell ⟨w1.heap.size + 1, 0, none⟩ (.slice (some ⟨g, 0, none⟩) ((stL pre).length + 1) cap)).setCell ⟨w1.heap.size, pidx m.1, none⟩ (.string emp)).ownsRow w2.heap.size 31 2 (.slice A3 bs.length c3) bs.length (mcells bs) ∧ Below w.heap.size w ((W3.setCell ⟨w1.heap.size + 1, 0, none⟩ (.slice (some ⟨g, 0, none⟩) ((stL pre).length + 1) cap)).setCell ⟨w1.heap.size, pidx m.1, none⟩ (.string emp))) ∧
        RowStep W0.heap.size r r' W ((W3.setCell ⟨w1.heap.size + 1, 0, none⟩ (.slice (some ⟨g, 0, none⟩) ((stL pre).length + 1) cap)).setCell ⟨w1.heap.size, pidx m.1, none⟩ (.string emp)) := by
      refine ⟨some g, ⟨⟨_, m1, ?_, rfl⟩, mt, ma, mv, (hB3.setCell (by show w.heap.size ≤ w1.heap.size + 1; omega) _).setCell (by show w.heap.size ≤ w1.heap.size; omega) _⟩, hst⟩
      rw [hpn]; exact mr
    have FIN := Lib.hid fin
    have d1 := j1.cell 0
    have d2 := j1.frozen 0
    have d3 : W3.cell? ⟨b, 0, none⟩ = some (.string m.1) := jq.cell 0
    have d4 : W3.cell? ⟨b, 1, none⟩ = some (.string m.2) := jq.cell 1
    have d5 : W3.cell? ⟨w1.heap.size, pidx m.1, none⟩ = some (.string (delF f pre (pidx m.1))) := (jt.cell _).trans (tabC_at _ _ hlp.1)
    have d6 : W3.frozen? ⟨w1.heap.size, pidx m.1, none⟩ = false := jt.frozen _
    have l5 := j1.lt
    have l6 := jt.lt
    have l7 := jq.lt
    have i0' : (0 : Int) ≤ (pidx m.1 : Int) := by omega
    have i1' : (pidx m.1 : Int) < 9 := by have := hlp.1; omega
    clear hnw c0 c1 cs3 k1 k2 k3 q1 hgrow3 hge hcs hown3 m1 mt ma mv mr hst hB3 hlies j1 jt ja jq jv hax k2a s1 s2 hge3 fin kt ka kv hmp hlp hp HDB
    generalize delF f pre (pidx m.1) = oldv at *
    generalize pidx m.1 = j at *
    gi_wp2_with fail
    refine ⟨trivial, CallsIn.inRound l (callsIn_wide.2 ((HIX.out _).mono ?_))⟩
    rintro e wq ⟨rfl, rfl⟩
    gi_wp2
    have FIN2 := FIN.out
    rw [hps] at FIN2
    exact FIN2
  · rintro D r W hD ⟨⟨o, k1, k2, k0⟩, kt, _, _, k3⟩ hd
    rw [← HTK.out] at k2 kt
    have c2 : W.drew.cell? ⟨w1.heap.size + 1, 0, none⟩ = some o := k1.cell 0
    have ktd : At W.drew w1.heap.size 56 (tabC (delF f (takM xs))) := kt
    have k2d : W.drew.ownsRow (W0.heap.size + 2) 33 3 o (stL (takM xs)).length (scells (stL (takM xs))) := k2
    have hdd : W.drew.heap[D]? = some (.deferred (some [])) := hd
    have k3d := k3.drew
    have hl1 : w1.heap.size + 1 < W.drew.heap.size := k1.lt
    have hDl : D < W.drew.heap.size := (Array.getElem?_eq_some_iff.1 hd).1
    have hLT : (stL (takM xs)).length ≤ 9 := by unfold stL; rw [List.length_map]; exact takM_le xs
    have hLR : (swL (rwM xs)).length ≤ 9 := by rw [swL_len]; exact HRL.out
    have hbz := HBz.out
    clear k1 k2 k3 kt hd
    gi_wp2
    refine wpIn_noP ?_
    refine region_late2 (F := Fence.wide) (C := fun w' => w' = W.drew) (D := fun w' => w'.cell? ⟨w1.heap.size + 1, 0, none⟩ = some o) 1 3 rfl (by kernel_rfl) (by kernel_rfl) _ (by rfl) (by simp) o (by intro _ _ _ h; exact h) (yieldsD_load (by rfl) _ _ (by rfl) _ Try.underlying25 _ (by rfl) o) (fun w' hw => by subst hw; exact c2) rfl ?_
    simp only [List.take_succ_cons, List.take_zero, List.drop_succ_cons, List.drop_zero, Nat.reduceSub, Nat.reduceAdd]
    simp only [Act.put, List.setIfInBounds_toArray, List.set_cons_succ, List.set_cons_zero]
    refine wpQuietIn_nil ?_
    intro w' hw'
    subst hw'
    refine ⟨c2, op_k (fun K hK => ?_)⟩
    refine opIn_row rfl 56 (.tmp 4) rfl w1.heap.size 56 _ ktd (by rfl) 9 9 Try.underlying56 (by kernel_rfl) (hK _ _ ?_)
    clear hK K
    refine ⟨c2, op_k (fun K hK => ?_)⟩
    go_simp
    refine ⟨trivial, callsIn_wide.2 ((HPE.out _).mono ?_)⟩
    rintro e w4 ⟨b, rfl, hb4, hge4, hB4'⟩
    refine hK _ _ ?_
    clear hK K
    have d2 : w4.cell? ⟨w1.heap.size + 1, 0, none⟩ = some o := (hB4'.cell (p := ⟨w1.heap.size + 1, 0, none⟩) hl1).trans c2
    refine ⟨d2, op_k (fun K hK => ?_)⟩
    go_simp
    refine ⟨trivial, callsIn_wide.2 ((HRS.out b _ hb4).mono ?_)⟩
    rintro e w5 ⟨v5, rfl, ho5, hg5⟩
    refine hK _ _ ?_
    clear hK K
    have hb4l := hb4.lt
    have e2 : w5.cell? ⟨w1.heap.size + 1, 0, none⟩ = some o := hg5.cell d2 (by show some (w1.heap.size + 1) ≠ some b; intro e; cases e; omega)
    refine ⟨e2, ?_⟩
    rw [HRW.out] at ho5
    have hob : ∀ g, o.ownBlock = some g → g < W.drew.heap.size ∧ g ≠ D := fun g hg => ⟨(own_blk k2d hg).1, fun e => by
      subst e
      rcases k2d.2 with ⟨rfl, _⟩ | ⟨g', cap, cur, rfl, _, hh, _⟩
      · cases hg
      · cases hg
        rw [hdd] at hh; cases hh⟩
    have own4 := own_keep k2d hB4'
    have own5 := own_grown own4 hg5 (.inl fun e => by have := (hob b e).1; omega)
    have hs4 := hB4'.size
    have hs5 := hg5.size
    refine listIn_rows rfl (.tmp 35) (.tmp 38) rfl (W0.heap.size + 2) w4.heap.size o v5 (stL (takM xs)) (swL (rwM xs)) (by rfl) (by rfl) own5 ho5 (by omega) (by omega) ?_
    intro v6 w6 hown6 hg6
    have hd6 : w6.heap[D]? = some (.deferred (some [])) := by
      rw [hg6.block D (by omega) (fun e => (hob D e.symm).2 rfl), hg5.block D (by omega) (fun e => by cases e; omega), hB4'.block D hDl]
      exact hdd
    have hB6 : Below w.heap.size w w6 := ((k3d.trans (hB4'.mono k3d.size)).trans (below_grown hg5 (by omega) (fun g e => by cases e; omega))).trans (below_grown hg6 (by omega) (fun g e => by have := (own_blk own5 e).2; omega))
    have hOWN : w6.ownsRow w.heap.size 33 3 v6 (owS xs).length (scells (owS xs)) := by
      rw [HOW.out]; exact own_more hown6 (by omega)
    clear hown6 hg6 own5 own4 ho5 hg5 hB4' hb4 e2 d2 c2 ktd k2d hdd k3d hob
    gi_wp2
    refine ⟨by simp, .inl ⟨D, _, rfl, run_takeDeferred hd6, ?_⟩⟩
    have hR : ∀ tmps : Array Value, tmps.getD 2 undef = v6 → tmps.getD 3 undef = .bool true → (results Try.f33 tmps).run Try.prog (w6.putObj D (.deferred none)) = .ok (.tuple #[v6, .bool true]) (w6.putObj D (.deferred none)) := fun tmps h2 h3 => by
      have h2' : tmps[2]?.getD undef = v6 := by simpa using h2
      have h3' : tmps[3]?.getD undef = .bool true := by simpa using h3
      simp [results, Try.results33, h2', h3']
    exact ⟨_, hR _ rfl rfl, _, rfl, own_turn hOWN (grownBy_putObj' w6 D _) (fun r e => by cases e; exact ⟨_, hd6, rfl⟩), hB6.trans ⟨rfl, rfl, rfl, by simp [World.putObj], fun k hk => World.putObj_heap_other (by omega)⟩⟩
set_option maxRecDepth 100000 in
set_option maxHeartbeats 4000000 in
theorem imOrderWithSwaps_c (xs : List Mv) (v : Value) (w : World) (hx : RdM w v xs) :
    Calls Try.prog 33 #[v] w fun e w' => ∃ v', e = .returned (.tuple #[v', .bool (mvalid xs)]) ∧ w'.ownsRow w.heap.size 33 3 v' (owS xs).length (scells (owS xs)) ∧ Below w.heap.size w w' := by
  rcases Bool.eq_false_or_eq_true (mvalid xs) with hm1 | hm0
  · rw [hm1]; exact imOrderWithSwaps_yes xs (by simpa [mvalid] using hm1) v w hx
  · have h1 : ¬ MV xs := by simpa [mvalid] using hm0
    have HM := Lib.hid hm0
    have HS := Lib.hid (owS_no hm0)
    have HT := Lib.hid (tableOf_no xs h1 v w hx)
    clear h1 hx hm0
    go_enter Try.func33, Try.ntmps33
    go_wp2_with fail
    refine HT.out.mono ?_
    rintro e w1 ⟨rfl, hb1⟩
    have hs1 := hb1.size
    go_wp2
    go_ret2
    exact ⟨_, by rw [HM.out]; rfl, by rw [HS.out]; exact ⟨rfl, .inl ⟨rfl, rfl⟩⟩, by (repeat' (first | (with_reducible exact Below.refl _ _) | (with_reducible assumption) | (with_reducible refine Below.alloc ?_ ?_ _) | (with_reducible refine Below.drew ?_) | (with_reducible refine Below.setCell ?_ ?_ _) | (with_reducible exact Nat.le_refl _) | omega | ((repeat (first | rewrite [World.size_alloc] | rewrite [World.size_setCell] | rewrite [World.size_drew])); omega) | (simp; omega) | (simp; done)))⟩
end Go.Proofs.Yteadhnpmmpninaa
namespace Go.PM
open Go.RowKit
theorem rdN_take (xs : List Mv) (k : Nat) (hk : k < xs.length) (a : ByteArray) : rdN (xs.take (k + 1)) a = rdN (xs.take k) a + if xs[k].2 = a then 1 else 0 := by
  rw [take_snoc xs k hk]
  unfold rdN
  rw [List.map_append, List.count_append, List.map_cons, List.map_nil, List.count_cons]
  simp
theorem instM_take (a b : ByteArray) (xs : List Mv) (k : Nat) (hk : k < xs.length) : instM a b (xs.take (k + 1)) = instM a b (xs.take k) ++ [(xs[k].1, if xs[k].2 = a then b else xs[k].2)] := by
  rw [take_snoc xs k hk]
  unfold instM
  rw [List.map_append, List.map_cons, List.map_nil]
  by_cases h : xs[k].2 = a
  · rw [if_pos h, if_pos h]
  · rw [if_neg h, if_neg h]
def readB (xs : List Mv) (a : ByteArray) : Bool := decide (rdN xs a ≠ 0)
theorem readB_at {xs : List Mv} {k : Nat} (hk : k < xs.length) {a : ByteArray} (h : xs[k].2 = a) : readB xs a = true := by
  unfold readB
  rw [decide_eq_true_eq]
  intro e
  exact rdN_zero.1 e _ (List.getElem_mem hk) h
theorem readB_no {xs : List Mv} {a : ByteArray} (h : rdN xs a = 0) : readB xs a = false := by
  unfold readB; rw [decide_eq_false_iff_not]; exact fun e => e h
end Go.PM
namespace Go.Proofs.Yteadhnpmmpninaa
open Go.RowKit Go.PM
attribute [local go_sem] Oper.semAt_some

set_option maxRecDepth 100000 in
set_option maxHeartbeats 800000 in
theorem l5Read_c (xs : List Mv) (v : Value) (a : ByteArray) (w : World) (hx : RdM w v xs) :
    Calls Try.prog 110 #[v, .string a] w fun e w' => e = .returned (.bool (readB xs a)) ∧ Below w.heap.size w w' := by
  obtain ⟨A, cap, rfl, hn, hc, hcell⟩ := hx.open
  have HRN := Lib.hid (readB_no (xs := xs) (a := a))
  go_enter Try.func110, Try.ntmps110
  go_wp2
  go_loopw [6, 9] (fun _ i wr => ∃ (k : Nat), k ≤ xs.length ∧ i = .int .i64 k ∧ Hid (rdN (xs.take k) a = 0) ∧ Below w.heap.size w wr) (fun _ i _ => xs.length - (intOf i).toNat)
  case atStart => exact ⟨0, by omega, rfl, by show _ = _; simp [rdN], Below.refl _ _⟩
  case round =>
    obtain ⟨k, hk, rfl, hm, hb⟩ := hrel
    have hbs := hb.size
    by_cases hlt : k < xs.length
    · obtain ⟨b, off, rfl, hbl, hc1, hc2⟩ := hcell k hlt
      have hd1 := (hb.cell (p := ⟨b, off + k * 2, none⟩) hbl).trans hc1
      have hd2 := (hb.cell (p := ⟨b, off + k * 2 + 1, none⟩) hbl).trans hc2
      clear hc1 hc2 hcell
      have HR := Lib.hid (rdN_take xs k hlt a)
      have HY := Lib.hid (readB_at (xs := xs) (a := a) hlt)
      generalize xs[k].1 = x1 at *
      generalize xs[k].2 = x2 at *
      go_wp2
      · have h : (x2.toList == a.toList) = true := by assumption
        rw [beq_str, decide_eq_true_eq] at h
        go_ret
        exact ⟨by rw [HY.out h]; rfl, by (repeat' (first | (with_reducible exact Below.refl _ _) | (with_reducible assumption) | (with_reducible refine Below.alloc ?_ ?_ _) | (with_reducible refine Below.drew ?_) | (with_reducible refine Below.setCell ?_ ?_ _) | (with_reducible exact Nat.le_refl _) | omega | ((repeat (first | rewrite [World.size_alloc] | rewrite [World.size_setCell] | rewrite [World.size_drew])); omega) | (simp; omega) | (simp; done)))⟩
      · have h : (x2.toList == a.toList) = false := by assumption
        rw [beq_str, decide_eq_false_iff_not] at h
        go_roundw
        case rel => exact ⟨k + 1, by omega, by go_num, by show _ = _; rw [HR.out, hm.out, if_neg h], by (repeat' (first | (with_reducible exact Below.refl _ _) | (with_reducible assumption) | (with_reducible refine Below.alloc ?_ ?_ _) | (with_reducible refine Below.drew ?_) | (with_reducible refine Below.setCell ?_ ?_ _) | (with_reducible exact Nat.le_refl _) | omega | ((repeat (first | rewrite [World.size_alloc] | rewrite [World.size_setCell] | rewrite [World.size_drew])); omega) | (simp; omega) | (simp; done)))⟩
        case measure => simp [intOf]; omega
    · have hk' : k = xs.length := by omega
      have h1 := hm.out
      rw [hk', List.take_of_length_le (Nat.le_refl _)] at h1
      have HF := Lib.hid (HRN.out h1)
      clear h1 hk'
      go_wp2
      go_ret
      exact ⟨by rw [HF.out]; rfl, hb⟩
end Go.Proofs.Yteadhnpmmpninaa
namespace Go.PM
open Go.RowKit
theorem add_off (b off j : Nat) : (⟨b, off, none⟩ : Addr).add j = ⟨b, off + j, none⟩ := by
  unfold Addr.add; split <;> simp_all
theorem own_lit1 (w : World) (e : TypeId) (base B : Nat) (hB : w.heap.size = B) (hb : base ≤ B) : (w.alloc (.cells #[] e)).drew.ownsRow base e 2 (.slice (some ⟨B, 0, none⟩) 0 0) ([] : List Mv).length (mcells []) := by
  subst hB
  exact World.ownsRow_lit (e := e) (base := base) (size := 2) w #[] 0 hb (Nat.zero_le _) rfl
end Go.PM
namespace Go.Proofs.Yteadhnpmmpninaa
open Go.RowKit Go.PM
attribute [local go_sem] Oper.semAt_some

/-- append of moves that lie somewhere, as a step of a region that draws -/
theorem step_appM {ops : Array Oper} {o : Oper} {a : Act} {w : World} {K : Act → World → Prop} {Q : Exit → Act → World → Prop} {E : Prop} (hgd : o.guard = none) (s x : Operand)
    (ho : o.op = .call { callee := .builtin .append, args := #[s, x], argTypes := #[23, 23] })
    (base : Nat) (v : Value) (ys zs : List Mv) (ad : Addr) (c : Nat) (hs : a.eval s = v) (hx : a.eval x = .slice (some ad) zs.length c)
    (hown : w.ownsRow base 31 2 v ys.length (mcells ys)) (hnew : ∀ j u, (mcells zs)[j]? = some u → w.cell? (ad.add j) = some u)
    (hlen : ys.length + zs.length ≤ 1048576) (hbase : base ≤ w.heap.size)
    (h : ∀ v' w', Hid (w'.ownsRow base 31 2 v' (ys ++ zs).length (mcells (ys ++ zs))) → w.grownBy w' v.ownBlock → K (a.put o.dst v') w') :
    if Region.wanted o (yielded ops a.tmps) = true then Oper.wp Try.prog o a w K Q else E := by
  have hw : Region.wanted o (yielded ops a.tmps) = true := by simp [Region.wanted, hgd]
  rw [if_pos hw]
  obtain ⟨i0, hi0, hz0, hz1, hz2⟩ := info_parts infoMv
  obtain ⟨v', w', hr, h2, h3, _⟩ := run_append_own (P := Try.prog) w base 23 o.type 31 i0 _ 2 32 Try.underlying23 hi0 hz0 hz1 hz2 rfl (by omega) v ys.length (mcells ys) hown ad zs.length c (mcells zs) (mcells_length zs) hnew (mcells_one zs) (by simp only [maxLen]; omega) (by omega) hbase
  unfold Oper.wp
  simp [execOp, ho, resolve, invoke, builtin, hs, hx, hr, Result.andThen]
  refine h v' w' ?_ h3
  show World.ownsRow _ _ _ _ _ _ _
  rw [mcells_append, List.length_append]
  exact h2

set_option maxRecDepth 100000 in
set_option maxHeartbeats 3200000 in
theorem l5Next_c (xs : List Mv) (v : Value) (w : World) (hx : RdM w v xs) (hn' : xs.length ≤ 1048575) (hne : ∀ m ∈ xs, m.1 ≠ m.2) :
    Calls Try.prog 69 #[v] w fun e w' => e = .returned (.int .i64 (aheadZ xs)) ∧ Below w.heap.size w w' := by
  have hx0 := hx
  obtain ⟨A, cap, rfl, hn, hc, hcell⟩ := hx.open
  have HZ := Lib.hid (aheadZ_none (xs := xs))
  have HK := Lib.hid (fun k hk h => aheadZ_at (xs := xs) (k := k) hk h)
  have HRD := Lib.hid (fun ys v a W h => l5Read_c ys v a W h)
  have HNE := Lib.hid hne
  clear hne hx
  go_enter Try.func69, Try.ntmps69
  go_wp2
  go_loopw [3, 4, 5, 8] (fun _ _ _ i wr => ∃ (k : Nat), k ≤ xs.length ∧ i = .int .i64 k ∧ Below w.heap.size w wr ∧ Hid (∀ j (hj : j < k) (hj2 : j < xs.length), freeB xs xs[j] = false)) (fun _ _ _ i _ => xs.length - (RowKit.intOf i).toNat)
  case atStart => exact ⟨0, by omega, rfl, Below.refl _ _, fun j hj => by omega⟩
  case round =>
    obtain ⟨k, hk, rfl, hb, hm⟩ := hrel
    have hbs := hb.size
    by_cases hlt : k < xs.length
    · obtain ⟨b, off, rfl, hbl, hc1, hc2⟩ := hcell k hlt
      have hd1 := (hb.cell (p := ⟨b, off + k * 2, none⟩) hbl).trans hc1
      have hd2 := (hb.cell (p := ⟨b, off + k * 2 + 1, none⟩) hbl).trans hc2
      have hsrc := Rd.cellsFrom hx0
      have hcp : ∀ (W : World), Below w.heap.size w W → ∀ (j : Nat) (u : Value), (mcells (xs.take k))[j]? = some u → W.cell? ((⟨b, off, none⟩ : Addr).add j) = some u := fun W hW j u h => by
        rw [add_off]
        refine (hW.cell hbl).trans (hsrc j u ?_)
        rw [← mcells_take, List.getElem?_take] at h
        split at h
        · exact h
        · cases h
      have hcq : ∀ (W : World), Below w.heap.size w W → ∀ (j : Nat) (u : Value), (mcells (xs.drop (k + 1)))[j]? = some u → W.cell? ((⟨b, off + (k + 1) * 2, none⟩ : Addr).add j) = some u := fun W hW j u h => by
        rw [add_off, Nat.add_assoc]
        refine (hW.cell hbl).trans (hsrc _ u ?_)
        rw [← mcells_drop, List.getElem?_drop] at h
        exact h
      have hltk : (xs.take k).length = k := by rw [List.length_take]; omega
      have hldk : (xs.drop (k + 1)).length = xs.length - (k + 1) := by rw [List.length_drop]
      have hsum : (xs.take k).length + (xs.drop (k + 1)).length ≤ 1048576 := by omega
      have i0 : (0 : Int) ≤ (k : Int) := by omega
      have i1 : (k : Int) ≤ (xs.length : Int) := by omega
      have i2 : (k : Int) + 1 ≤ (xs.length : Int) := by omega
      have HER : Hid (xs.take k ++ xs.drop (k + 1) = xs.eraseIdx k) := by show _ = _; rw [List.eraseIdx_eq_take_drop_succ]
      have HFB : Hid (readB (xs.eraseIdx k) xs[k].1 = !freeB xs xs[k]) := by
        show _ = _
        have h1 := rdN_erase xs k hlt xs[k].1
        rw [if_neg (fun e => HNE.out _ (List.getElem_mem hlt) e.symm), Nat.add_zero] at h1
        unfold readB freeB
        rw [h1]
        by_cases e : rdN (xs.eraseIdx k) xs[k].1 = 0 <;> simp [e]
      have HKK := Lib.hid (fun h => HK.out k hlt h)
      have HNX : Hid (freeB xs xs[k] = false → ∀ j (hj : j < k + 1) (hj2 : j < xs.length), freeB xs xs[j] = false) := fun h j hj hj2 => by
        by_cases e : j = k
        · subst e; exact h
        · exact hm.out j (by omega) hj2
      have HCP := Lib.hid hcp
      have HCQ := Lib.hid hcq
      clear hc1 hc2 hcell hcp hcq hsrc
      generalize hfb : freeB xs xs[k] = fb at *
      clear hfb
      generalize xs[k].1 = x1 at *
      generalize xs[k].2 = x2 at *
      generalize xs.take k = p1 at *
      generalize xs.drop (k + 1) = p2 at *
      generalize xs.eraseIdx k = er at *
      have HB1 : Hid (Below w.heap.size w (wr.alloc (.cells #[.string x1, .string x2] 31))) := hb.alloc hbs _
      have n1 : k ≤ cap := by omega
      have n2 : k + 1 ≤ xs.length := by omega
      have n3 : k + 1 ≤ cap := by omega
      have n4 : IntKind.i64.wrap ((k : Int) + 1) = (k : Int) + 1 := IntWalk.i64_in _ ⟨by omega, by omega⟩
      have n5 : ((k : Int) + 1).toNat = k + 1 := by omega
      have n6 : (0 : Int) ≤ (k : Int) + 1 := by omega
      by_cases hcap : cap = k + 1
      · subst hcap
        have hp20 : p2.length = 0 := by omega
        have n7 : (k : Int) ≤ (k : Int) + 1 := by omega
        have HCZ : Hid (∀ (W : World) (j : Nat) (u : Value), (mcells p2)[j]? = some u → W.cell? ((⟨b, off, none⟩ : Addr).add j) = some u) := fun W j u h => by
          have : p2 = [] := List.length_eq_zero_iff.1 (by omega)
          rw [this] at h; simp [mcells] at h
        go_wp2
        go_region_law (first
          | (refine step_appM rfl (.tmp 13) (.tmp 16) rfl (wr.heap.size + 1) (.slice (some ⟨wr.heap.size + 1, 0, none⟩) 0 0) [] p1 ⟨b, off, none⟩ (k + 1) (by rfl) (by rw [hltk]; rfl) (own_lit1 _ _ _ _ (by simp) (by omega)) (HCP.out _ (by (repeat' (first | (with_reducible exact Below.refl _ _) | (with_reducible assumption) | (with_reducible refine Below.alloc ?_ ?_ _) | (with_reducible refine Below.drew ?_) | (with_reducible refine Below.setCell ?_ ?_ _) | (with_reducible exact Nat.le_refl _) | omega | ((repeat (first | rewrite [World.size_alloc] | rewrite [World.size_setCell] | rewrite [World.size_drew])); omega) | (simp; omega) | (simp; done))))) (by simp; omega) (by simp only [World.size_alloc, World.size_drew]; omega) ?_; intro v1 w1 ho1 hg1; have hb1 := Below.trans (show Below w.heap.size w ((wr.alloc (.cells #[.string x1, .string x2] 31)).alloc (.cells #[] 31)).drew by (repeat' (first | (with_reducible exact Below.refl _ _) | (with_reducible assumption) | (with_reducible refine Below.alloc ?_ ?_ _) | (with_reducible refine Below.drew ?_) | (with_reducible refine Below.setCell ?_ ?_ _) | (with_reducible exact Nat.le_refl _) | omega | ((repeat (first | rewrite [World.size_alloc] | rewrite [World.size_setCell] | rewrite [World.size_drew])); omega) | (simp; omega) | (simp; done)))) (below_grown hg1 (by simp; omega) (fun g e => by have e' : some (wr.heap.size + 1) = some g := e; cases e'; omega)))
          | (refine step_appM rfl (.tmp 17) (.tmp 21) rfl (wr.heap.size + 1) _ _ p2 ⟨b, off, none⟩ 0 (by rfl) (by rw [hp20]; rfl) ho1.out (HCZ.out _) (by simpa using hsum) (by have := hg1.size; simp at this; omega) ?_; intro v2 w2 ho2 hg2))
        have hz1 := hg1.size
        have hz2 := hg2.size
        simp only [World.size_alloc, World.size_drew] at hz1
        have hrd2 : RdM w2 v2 er := by
          have := Rd.of_own ho2.out
          rw [List.nil_append, HER.out] at this
          exact this
        have hge1 := own_block_ge ho1.out
        have hN0 : At ((wr.alloc (.cells #[.string x1, .string x2] 31)).alloc (.cells #[] 31)).drew wr.heap.size 31 #[.string x1, .string x2] := (At.new wr 31 #[.string x1, .string x2]).alloc _
        have hN1 : At w1 wr.heap.size 31 #[.string x1, .string x2] := hN0.grown hg1 (by intro e; have e' : some wr.heap.size = some (wr.heap.size + 1) := e; have := Option.some.inj e'; omega)
        have hN2 : At w2 wr.heap.size 31 #[.string x1, .string x2] := hN1.grown hg2 (fun e => by have := hge1 _ e.symm; omega)
        have q1 : w2.cell? ⟨wr.heap.size, 0, none⟩ = some (.string x1) := hN2.cell 0
        have hb2 : Below w.heap.size w w2 := hb1.trans (below_grown hg2 (by omega) (fun g e => by have := hge1 g e; omega))
        have hs2 := hb2.size
        clear hg1 hg2 hN0 hN1 hN2 ho1 ho2 hd1 hd2 hb1
        have HRR := Lib.hid (HRD.out er v2 x1 w2 hrd2)
        rw [HFB.out] at HRR
        clear hrd2
        cases fb with
        | true =>
          go_wp2_with (go_at_call 110; refine HRR.out.mono ?_; rintro e w3 ⟨rfl, hb3⟩)
          go_ret
          exact ⟨by rw [HKK.out (fun j hj => hm.out j hj (by omega)) (by first | trivial | rfl)]; rfl, hb2.trans (hb3.mono hs2)⟩
        | false =>
          go_wp2_with (go_at_call 110; refine HRR.out.mono ?_; rintro e w3 ⟨rfl, hb3⟩)
          go_roundw
          case rel => exact ⟨k + 1, by omega, by go_num, hb2.trans (hb3.mono hs2), HNX.out (by first | trivial | rfl)⟩
          case measure => simp [RowKit.intOf]; omega
      · go_wp2
        go_region_law (first
          | (refine step_appM rfl (.tmp 13) (.tmp 16) rfl (wr.heap.size + 1) (.slice (some ⟨wr.heap.size + 1, 0, none⟩) 0 0) [] p1 ⟨b, off, none⟩ cap (by rfl) (by rw [hltk]; rfl) (own_lit1 _ _ _ _ (by simp) (by omega)) (HCP.out _ (by (repeat' (first | (with_reducible exact Below.refl _ _) | (with_reducible assumption) | (with_reducible refine Below.alloc ?_ ?_ _) | (with_reducible refine Below.drew ?_) | (with_reducible refine Below.setCell ?_ ?_ _) | (with_reducible exact Nat.le_refl _) | omega | ((repeat (first | rewrite [World.size_alloc] | rewrite [World.size_setCell] | rewrite [World.size_drew])); omega) | (simp; omega) | (simp; done))))) (by simp; omega) (by simp only [World.size_alloc, World.size_drew]; omega) ?_; intro v1 w1 ho1 hg1; have hb1 := Below.trans (show Below w.heap.size w ((wr.alloc (.cells #[.string x1, .string x2] 31)).alloc (.cells #[] 31)).drew by (repeat' (first | (with_reducible exact Below.refl _ _) | (with_reducible assumption) | (with_reducible refine Below.alloc ?_ ?_ _) | (with_reducible refine Below.drew ?_) | (with_reducible refine Below.setCell ?_ ?_ _) | (with_reducible exact Nat.le_refl _) | omega | ((repeat (first | rewrite [World.size_alloc] | rewrite [World.size_setCell] | rewrite [World.size_drew])); omega) | (simp; omega) | (simp; done)))) (below_grown hg1 (by simp; omega) (fun g e => by have e' : some (wr.heap.size + 1) = some g := e; cases e'; omega)))
          | (refine step_appM rfl (.tmp 17) (.tmp 21) rfl (wr.heap.size + 1) _ _ p2 ⟨b, off + (k + 1) * 2, none⟩ (cap - (k + 1)) (by rfl) (by rw [hldk]; rfl) ho1.out (HCQ.out _ hb1) (by simpa using hsum) (by have := hg1.size; simp at this; omega) ?_; intro v2 w2 ho2 hg2))
        have hz1 := hg1.size
        have hz2 := hg2.size
        simp only [World.size_alloc, World.size_drew] at hz1
        have hrd2 : RdM w2 v2 er := by
          have := Rd.of_own ho2.out
          rw [List.nil_append, HER.out] at this
          exact this
        have hge1 := own_block_ge ho1.out
        have hN0 : At ((wr.alloc (.cells #[.string x1, .string x2] 31)).alloc (.cells #[] 31)).drew wr.heap.size 31 #[.string x1, .string x2] := (At.new wr 31 #[.string x1, .string x2]).alloc _
        have hN1 : At w1 wr.heap.size 31 #[.string x1, .string x2] := hN0.grown hg1 (by intro e; have e' : some wr.heap.size = some (wr.heap.size + 1) := e; have := Option.some.inj e'; omega)
        have hN2 : At w2 wr.heap.size 31 #[.string x1, .string x2] := hN1.grown hg2 (fun e => by have := hge1 _ e.symm; omega)
        have q1 : w2.cell? ⟨wr.heap.size, 0, none⟩ = some (.string x1) := hN2.cell 0
        have hb2 : Below w.heap.size w w2 := hb1.trans (below_grown hg2 (by omega) (fun g e => by have := hge1 g e; omega))
        have hs2 := hb2.size
        clear hg1 hg2 hN0 hN1 hN2 ho1 ho2 hd1 hd2 hb1
        have HRR := Lib.hid (HRD.out er v2 x1 w2 hrd2)
        rw [HFB.out] at HRR
        clear hrd2
        cases fb with
        | true =>
          go_wp2_with (go_at_call 110; refine HRR.out.mono ?_; rintro e w3 ⟨rfl, hb3⟩)
          go_ret
          exact ⟨by rw [HKK.out (fun j hj => hm.out j hj (by omega)) (by first | trivial | rfl)]; rfl, hb2.trans (hb3.mono hs2)⟩
        | false =>
          go_wp2_with (go_at_call 110; refine HRR.out.mono ?_; rintro e w3 ⟨rfl, hb3⟩)
          go_roundw
          case rel => exact ⟨k + 1, by omega, by go_num, hb2.trans (hb3.mono hs2), HNX.out (by first | trivial | rfl)⟩
          case measure => simp [RowKit.intOf]; omega
    · have hz := HZ.out fun j hj => hm.out j (by omega) hj
      have HZZ := Lib.hid hz
      clear hz
      go_wp2
      go_ret
      exact ⟨by rw [HZZ.out]; rfl, hb⟩
end Go.Proofs.Yteadhnpmmpninaa
namespace Go.PS
open Go.PM Go.RowKit Go.PW
/-- what is taken, and what waits, at the head of a round -/
def OwSs (w : World) (e f : TypeId) (bs : List Mv) (k : Nat) (ov wv : Value) (A : World) : Prop :=
  ∃ (pre ws : List Mv), pre ++ takF k ws = takF 9 bs ∧ remF k ws = remF 9 bs ∧ Wt ws ∧ ws.length ≤ k ∧ ws.length ≤ 9 ∧ pre.length ≤ 9 ∧ A.ownsRow w.heap.size e 2 wv ws.length (mcells ws) ∧ A.ownsRow w.heap.size f 3 ov (stL pre).length (scells (stL pre)) ∧ Below w.heap.size w A
end Go.PS
namespace Go.Proofs.Yteadhnpmmpninaa
open Go.RowKit Go.PM Go.PS Go.PW Go.Lib
attribute [local go_sem] Oper.semAt_some

theorem list_st {ops : Array Oper} {rest : List Oper} {o : Oper} {a : Act} {Q : Exit → Act → World → Prop} {w : World} (hgd : o.guard = none) (s x : Operand)
    (ho : o.op = .call { callee := .builtin .append, args := #[s, x], argTypes := #[25, 25] })
    (base : Nat) (v : Value) (ys : List St) (m : St) (ad : Addr) (c : Nat) (hs : a.eval s = v) (hx : a.eval x = .slice (some ad) 1 c)
    (hown : w.ownsRow base 33 3 v ys.length (scells ys)) (hnew : ∀ j u, [Value.int .i64 m.1, Value.string m.2.1, Value.string m.2.2][j]? = some u → w.cell? (ad.add j) = some u)
    (hlen : ys.length ≤ 1048576) (hbase : base ≤ w.heap.size)
    (h : ∀ v' w', w'.ownsRow base 33 3 v' (ys ++ [m]).length (scells (ys ++ [m])) → w.grownBy w' v.ownBlock → wpList Try.prog ops Q rest (a.put o.dst v') w') : wpList Try.prog ops Q (o :: rest) a w := by
  obtain ⟨i0, hi0, hz0, hz1, hz2⟩ := info_parts infoSt3
  refine wpList_append_own w hgd s x _ ho base 33 i0 _ 3 40 Try.underlying25 hi0 hz0 hz1 hz2 rfl (by omega) v ys.length (scells ys) hs hown ad 1 c [Value.int .i64 m.1, Value.string m.2.1, Value.string m.2.2] hx rfl hnew
    (by intro u hu; simp at hu; rcases hu with rfl | rfl | rfl <;> rfl) (by simp only [maxLen]; omega) (by omega) hbase ?_
  intro v' w' h2 h3 _
  refine h v' w' ?_ h3
  have hcs : scells ys ++ [Value.int .i64 m.1, Value.string m.2.1, Value.string m.2.2] = scells (ys ++ [m]) := by rw [scells_append]; simp [scells]
  rw [← hcs, List.length_append]
  simpa using h2
theorem list_rows {ops : Array Oper} {rest : List Oper} {o : Oper} {a : Act} {Q : Exit → Act → World → Prop} {w : World} (hgd : o.guard = none) (s x : Operand)
    (ho : o.op = .call { callee := .builtin .append, args := #[s, x], argTypes := #[25, 25] })
    (base base2 : Nat) (v v2 : Value) (ys zs : List St) (hs : a.eval s = v) (hx : a.eval x = v2)
    (hown : w.ownsRow base 33 3 v ys.length (scells ys)) (hown2 : w.ownsRow base2 33 3 v2 zs.length (scells zs))
    (hlen : ys.length + zs.length ≤ 1048576) (hbase : base ≤ w.heap.size)
    (h : ∀ v' w', w'.ownsRow base 33 3 v' (ys ++ zs).length (scells (ys ++ zs)) → w.grownBy w' v.ownBlock → wpList Try.prog ops Q rest (a.put o.dst v') w') : wpList Try.prog ops Q (o :: rest) a w := by
  refine wpList_plain hgd fun K hK' => ?_
  obtain ⟨v', w', hrun, r1, r2⟩ := run_app_rows w o.type base base2 v v2 ys zs hown hown2 hlen hbase
  unfold Oper.wp
  simp [execOp, ho, resolve, invoke, builtin, hs, hx, hrun, Result.andThen]
  exact hK' _ _ (h v' w' r1 r2)
set_option maxRecDepth 100000 in
set_option maxHeartbeats 6400000 in
theorem spOrderWithSwaps_c (xs : List Mv) (v : Value) (w : World) (hx : RdM w v xs) (hz : ∀ m ∈ xs, m.1.size ≤ 9223372036854775807 ∧ m.2.size ≤ 9223372036854775807) (hn' : xs.length ≤ 1048576) :
    Calls Try.prog 32 #[v] w fun e w' => ∃ v', e = .returned (.tuple #[v', .bool (mvalid xs)]) ∧ w'.ownsRow w.heap.size 33 3 v' (owS xs).length (scells (owS xs)) ∧ Below w.heap.size w w' := by
  have HX := Lib.hid (fun W (hW : Below w.heap.size w W) => hx.below hW)
  have hE0 := World.ownsRow_lit (e := 33) (base := w.heap.size) (size := 3) w #[] 0 (Nat.le_refl _) (Nat.zero_le _) rfl
  have hb0 : Below w.heap.size w (w.alloc (.cells #[] 33)) := (Below.refl _ _).alloc (Nat.le_refl _) _
  have HV := Lib.hid (spMovesValid_c xs v _ (hx.below hb0) hz hn')
  rcases Bool.eq_false_or_eq_true (mvalid xs) with hm1 | hm1
  · have h1 : MV xs := by simpa [mvalid] using hm1
    have hW := busyF_Wt h1
    have hl9 := busyF_len xs 9
    have HM1 := Lib.hid hm1
    have HOW := Lib.hid (owS_yes hm1)
    have HTK : Hid (takM xs = takF 9 (busyF xs 9)) := rfl
    have HRM : Hid (remF 9 (busyF xs 9) = remM xs) := rfl
    have HRL := Lib.hid (fun v W (h : RdM W v (remM xs)) => l7Rings_c (remM xs) (remM_MV h1) v W h)
    have HRWl := Lib.hid (rwM_le h1)
    have HNX := Lib.hid (fun ws wv A hx hl hn => l5Next_c ws wv A hx (by omega : ws.length ≤ 1048575) hn)
    have HB := Lib.hid (fun W (hW : RdM W v xs) => l1Busy_c xs v W hW)
    rw [hm1] at HV
    clear hx hz h1 hm1
    go_enter Try.func32, Try.ntmps32
    go_wp2_with fail
    refine HV.out.mono ?_
    rintro e w1 ⟨rfl, hb1⟩
    have hE1 := own_keep hE0 hb1
    have hB1 := hb0.trans (hb1.mono hb0.size)
    have hs1 := hB1.size
    have hx1 := HX.out _ hB1
    clear hE0 hb0 HV hb1
    go_wp2_with (go_at_call 53; refine (HB.out _ hx1).mono ?_; rintro e w2 ⟨v2, rfl, ho2, hb2⟩; refine held ?_)
    unfold Held
    have hB2 := hB1.trans (hb2.mono hs1)
    have hR0 : OwSs w 31 33 (busyF xs 9) 9 (.slice (some ⟨w.heap.size, 0, none⟩) 0 0) v2 w2 :=
      ⟨[], busyF xs 9, rfl, rfl, hW, hl9, hl9, by simp, own_more ho2 hs1, own_keep hE1 hb2, hB2⟩
    clear hE1 hB1 HB ho2 hb2 hB2 hW hx1
    generalize hbe : busyF xs 9 = bs at *
    clear hbe
    go_wp2
    go_loopw [4, 5, 6] (fun ov wv _ wr => ∃ k, OwSs w 31 33 bs k ov wv wr) (fun _ wv _ _ => lenV wv)
    case atStart => exact ⟨9, hR0⟩
    case round =>
      clear hR0
      obtain ⟨k, pre, ws, hpr, hrem, hwt, hk, h9, hp9, ho, hov, hb⟩ := hrel
      have hbs := hb.size
      have hrd : RdM wr u5 ws := Rd.of_own ho
      have hnx := HNX.out ws _ wr hrd (by omega) hwt.ne
      rcases aheadZ_lt ws with hz2 | ⟨i, hi, hz2, ha⟩
      · have ha := aheadI_of_neg hz2
        rw [hz2] at hnx
        rw [takF_none ha, List.append_nil] at hpr
        rw [remF_none ha, HRM.out] at hrem
        have HR2 := Lib.hid (fun v W (h : RdM W v ws) => HRL.out v W (by rw [← hrem]; exact h))
        have hpl : (stL pre).length ≤ 9 := by unfold stL; rw [List.length_map]; exact hp9
        have HFI : Hid (owS xs = stL pre ++ swL (rwM xs)) := by show _ = _; rw [HOW.out, HTK.out, hpr]
        have hrl : (swL (rwM xs)).length ≤ 9 := by rw [swL_len]; exact HRWl.out
        have HRW : Hid (swL ((ringsF (nxT (tabOf (remM xs))) 9).flatMap prs) = swL (rwM xs)) := rfl
        rw [HRW.out] at HR2
        clear hz2 hpr hrem HRW
        generalize swL (rwM xs) = zs at *
        generalize stL pre = ys at *
        go_wp2_with (go_at_call 69; refine hnx.mono ?_; rintro e w1' ⟨rfl, hb1⟩; refine held ?_)
        unfold Held
        have hB1 := hb.trans (hb1.mono hbs)
        have hs1' := hB1.size
        have hov1 := own_keep hov hb1
        have hrd1 := hrd.below hb1
        clear hb1 ho hov hrd hb hnx
        go_wp2_with (go_at_call 48; refine (HR2.out _ _ hrd1).mono ?_; rintro e w2' ⟨v2', rfl, ho2', hb2'⟩; refine held ?_)
        unfold Held
        have hov2 := own_keep hov1 hb2'
        have hB2 := hB1.trans (hb2'.mono hs1')
        have hs2 := hB2.size
        clear hb2' hov1 hrd1 hB1
        go_wp2_with (at_builtin; refine held ?_)
        unfold Held
        refine list_rows rfl (.tmp 18) (.tmp 20) rfl w.heap.size w1'.heap.size u4 v2' ys zs (by rfl) (by rfl) hov2 ho2' (by omega) hs2 ?_
        intro v3 w3 hown3 hg3
        have hB3 := hB2.trans (below_grown hg3 (B := w.heap.size) hs2 (own_block_ge hov2))
        clear hov2 ho2' hB2 hg3
        go_wp2
        go_ret2
        exact ⟨_, by rw [HM1.out]; rfl, by rw [HFI.out]; exact hown3, hB3⟩
      · obtain ⟨A, cap, rfl, hn1, hc1, hcell⟩ := hrd.open
        obtain ⟨k, rfl⟩ : ∃ k', k = k' + 1 := ⟨k - 1, by omega⟩
        have htk := takF_some (n := k) hi ha
        have hre := remF_some (n := k) ha
        obtain ⟨b, off, rfl, hbl, d1, d2⟩ := hcell i hi
        have HNEW : Hid ((pre ++ [ws[i]]) ++ takF k (ws.eraseIdx i) = takF 9 bs ∧ remF k (ws.eraseIdx i) = remF 9 bs ∧ Wt (ws.eraseIdx i) ∧ (ws.eraseIdx i).length ≤ k ∧ (ws.eraseIdx i).length ≤ 9 ∧ (pre ++ [ws[i]]).length ≤ 9 ∧ (ws.eraseIdx i).length < ws.length) := by
          have hle : (ws.eraseIdx i).length = ws.length - 1 := List.length_eraseIdx_of_lt hi
          have hpp : (pre ++ [ws[i]]) ++ takF k (ws.eraseIdx i) = takF 9 bs := by rw [← hpr, htk]; simp
          refine ⟨hpp, by rw [← hrem, hre], hwt.erase i, by omega, by omega, ?_, by omega⟩
          have h1 := congrArg List.length hpp
          have h2 := takF_len 9 bs
          rw [List.length_append] at h1
          omega
        have hpl : (stL pre).length ≤ 9 := by unfold stL; rw [List.length_map]; exact hp9
        have HST : Hid (∀ m : Mv, stL (pre ++ [m]) = stL pre ++ [((0, m.1, m.2) : St)]) := by
          show ∀ m, _
          intro m; unfold stL; rw [List.map_append]; rfl
        have i0 : (0 : Int) ≤ (i : Int) := by omega
        have i1 : (i : Int) < (ws.length : Int) := by omega
        have i1n : ¬ (i : Int) < 0 := by omega
        rw [hz2] at hnx
        clear hz2 htk hre hcell hpr hrem ha
        generalize ws[i] = m at *
        rw [show m = (m.1, m.2) from rfl] at HNEW
        generalize m.1 = x1 at *
        generalize m.2 = x2 at *
        go_wp2_with (go_at_call 69; refine hnx.mono ?_; rintro e w1' ⟨rfl, hb1⟩; refine held ?_)
        unfold Held
        have hB1 := hb.trans (hb1.mono hbs)
        have ho1 := own_keep ho hb1
        have hov1 := own_keep hov hb1
        have e1 := (hb1.cell (p := ⟨b, off + i * 2, none⟩) hbl).trans d1
        have e2 := (hb1.cell (p := ⟨b, off + i * 2 + 1, none⟩) hbl).trans d2
        have hs1' := hB1.size
        have hnw := three_new w1' (.int .i64 0) (.string x1) (.string x2) 33
        clear hb1 ho hov hrd hb d1 d2 hnx
        go_wp2_with (at_builtin; refine held ?_)
        unfold Held
        refine list_st rfl (.tmp 22) (.tmp 28) rfl w.heap.size _ (stL pre) (0, x1, x2) ⟨w1'.heap.size, 0, none⟩ 1 (by rfl) (by rfl) (own_keep hov1 ((Below.refl _ _).alloc (Nat.le_refl _) _)) hnw (by omega) (by simp; omega) ?_
        intro v3 wx hov3 hg3
        rw [← HST.out (x1, x2)] at hov3
        have hbx : Below w.heap.size w (w1'.alloc (.cells #[.int .i64 0, .string x1, .string x2] 33)) := hB1.alloc hs1' _
        have hB3 := hbx.trans (below_grown hg3 (by simp; omega) (own_block_ge hov1))
        have hs3 := hB3.size
        have ho3 := own_grown (own_keep ho1 ((Below.refl _ _).alloc (Nat.le_refl _) (.cells #[.int .i64 0, .string x1, .string x2] 33))) hg3 (rows_neS ho1 hov1 (by decide))
        have hrdx : RdM wx (.slice (some ⟨b, off, none⟩) ws.length cap) ws := Rd.of_own ho3
        have hblx : b < wx.heap.size := (own_blk ho3 rfl).1
        have hsrc := Rd.cellsFrom hrdx
        clear hg3 hbx hB1 hov1 ho1 e1 e2 hnw
        have hcp : ∀ (W : World), Below wx.heap.size wx W → ∀ (j : Nat) (u : Value), (mcells (ws.take i))[j]? = some u → W.cell? ((⟨b, off, none⟩ : Addr).add j) = some u := fun W hW j u h => by
          rw [add_off]
          refine (hW.cell hblx).trans (hsrc j u ?_)
          rw [← mcells_take, List.getElem?_take] at h
          split at h
          · exact h
          · cases h
        have hcq : ∀ (W : World), Below wx.heap.size wx W → ∀ (j : Nat) (u : Value), (mcells (ws.drop (i + 1)))[j]? = some u → W.cell? ((⟨b, off + (i + 1) * 2, none⟩ : Addr).add j) = some u := fun W hW j u h => by
          rw [add_off, Nat.add_assoc]
          refine (hW.cell hblx).trans (hsrc _ u ?_)
          rw [← mcells_drop, List.getElem?_drop] at h
          exact h
        have hltk : (ws.take i).length = i := by rw [List.length_take]; omega
        have hldk : (ws.drop (i + 1)).length = ws.length - (i + 1) := by rw [List.length_drop]
        have hsum : (ws.take i).length + (ws.drop (i + 1)).length ≤ 1048576 := by omega
        have i2 : (i : Int) + 1 ≤ (ws.length : Int) := by omega
        have i3 : (i : Int) ≤ (ws.length : Int) := by omega
        have HER : Hid (ws.take i ++ ws.drop (i + 1) = ws.eraseIdx i) := by show _ = _; rw [List.eraseIdx_eq_take_drop_succ]
        have HCP := Lib.hid hcp
        have HCQ := Lib.hid hcq
        have n1 : i ≤ cap := by omega
        have n2 : i + 1 ≤ ws.length := by omega
        have n3 : i + 1 ≤ cap := by omega
        have n4 : IntKind.i64.wrap ((i : Int) + 1) = (i : Int) + 1 := IntWalk.i64_in _ ⟨by omega, by omega⟩
        have n5 : ((i : Int) + 1).toNat = i + 1 := by omega
        have n6 : (0 : Int) ≤ (i : Int) + 1 := by omega
        clear hcp hcq hsrc
        generalize ws.take i = p1 at *
        generalize ws.drop (i + 1) = p2 at *
        by_cases hcap : cap = i + 1
        · subst hcap
          have hp20 : p2.length = 0 := by omega
          have n7 : (i : Int) ≤ (i : Int) + 1 := by omega
          have HCZ : Hid (∀ (W : World) (j : Nat) (u : Value), (mcells p2)[j]? = some u → W.cell? ((⟨b, off, none⟩ : Addr).add j) = some u) := fun W j u h => by
            have : p2 = [] := List.length_eq_zero_iff.1 (by omega)
            rw [this] at h; simp [mcells] at h
          go_wp2
          go_region_law (first
                    | (refine step_appM rfl (.tmp 30) (.tmp 33) rfl wx.heap.size (.slice (some ⟨wx.heap.size, 0, none⟩) 0 0) [] p1 ⟨b, off, none⟩ (i + 1) (by rfl) (by rw [hltk]; rfl) (own_lit1 _ _ _ _ rfl (Nat.le_refl _)) (HCP.out _ (by (repeat' (first | (with_reducible exact Below.refl _ _) | (with_reducible assumption) | (with_reducible refine Below.alloc ?_ ?_ _) | (with_reducible refine Below.drew ?_) | (with_reducible refine Below.setCell ?_ ?_ _) | (with_reducible exact Nat.le_refl _) | omega | ((repeat (first | rewrite [World.size_alloc] | rewrite [World.size_setCell] | rewrite [World.size_drew])); omega) | (simp; omega) | (simp; done))))) (by simp; omega) (by simp) ?_; intro vq wq ho1 hg1; have hb1' := Below.trans (show Below wx.heap.size wx ((wx.alloc (.cells #[] 31)).drew) by (repeat' (first | (with_reducible exact Below.refl _ _) | (with_reducible assumption) | (with_reducible refine Below.alloc ?_ ?_ _) | (with_reducible refine Below.drew ?_) | (with_reducible refine Below.setCell ?_ ?_ _) | (with_reducible exact Nat.le_refl _) | omega | ((repeat (first | rewrite [World.size_alloc] | rewrite [World.size_setCell] | rewrite [World.size_drew])); omega) | (simp; omega) | (simp; done)))) (below_grown hg1 (by simp) (fun g e => by have e' : some wx.heap.size = some g := e; cases e'; omega)))
                    | (refine step_appM rfl (.tmp 34) (.tmp 38) rfl wx.heap.size _ _ p2 ⟨b, off, none⟩ 0 (by rfl) (by rw [hp20]; rfl) ho1.out (HCZ.out _) (by simpa using hsum) (by have := hg1.size; simp at this; omega) ?_; intro v2 w2 ho2 hg2))
          have hz1 := hg1.size
          have hz2 := hg2.size
          simp only [World.size_alloc, World.size_drew] at hz1
          have hge1 := own_block_ge ho1.out
          have hb2 : Below wx.heap.size wx w2 := hb1'.trans (below_grown hg2 (by omega) (fun g e => by have := hge1 g e; omega))
          have ho2' : w2.ownsRow wx.heap.size 31 2 v2 (ws.eraseIdx i).length (mcells (ws.eraseIdx i)) := by
            have := ho2.out
            rw [List.nil_append, HER.out] at this
            exact this
          have HO2 := Lib.hid ho2'
          clear hg1 hg2 ho1 ho2 hb1' ho2' hge1 hz1 hz2 HCP HCQ HER
          
          have hov4 := own_keep hov3 hb2
          have hB4 := hB3.trans (hb2.mono hs3)
          have hlv2 : lenV v2 = (ws.eraseIdx i).length := by obtain ⟨A, c, e, _⟩ := Rd.of_own HO2.out; rw [e]; rfl
          have hR : OwSs w 31 33 bs k v3 v2 w2 := ⟨_, ws.eraseIdx i, HNEW.out.1, HNEW.out.2.1, HNEW.out.2.2.1, HNEW.out.2.2.2.1, HNEW.out.2.2.2.2.1, HNEW.out.2.2.2.2.2.1, own_more HO2.out hs3, hov4, hB4⟩
          have hlt5 := HNEW.out.2.2.2.2.2.2
          clear hov4 hB4 hov3 hrdx ho3 hB3 hb2
          go_simp
          try go_wp2
          go_roundw
          case rel => exact ⟨k, hR⟩
          case measure => rw [hlv2]; exact hlt5
        · go_wp2
          go_region_law (first
                    | (refine step_appM rfl (.tmp 30) (.tmp 33) rfl wx.heap.size (.slice (some ⟨wx.heap.size, 0, none⟩) 0 0) [] p1 ⟨b, off, none⟩ cap (by rfl) (by rw [hltk]; rfl) (own_lit1 _ _ _ _ rfl (Nat.le_refl _)) (HCP.out _ (by (repeat' (first | (with_reducible exact Below.refl _ _) | (with_reducible assumption) | (with_reducible refine Below.alloc ?_ ?_ _) | (with_reducible refine Below.drew ?_) | (with_reducible refine Below.setCell ?_ ?_ _) | (with_reducible exact Nat.le_refl _) | omega | ((repeat (first | rewrite [World.size_alloc] | rewrite [World.size_setCell] | rewrite [World.size_drew])); omega) | (simp; omega) | (simp; done))))) (by simp; omega) (by simp) ?_; intro vq wq ho1 hg1; have hb1' := Below.trans (show Below wx.heap.size wx ((wx.alloc (.cells #[] 31)).drew) by (repeat' (first | (with_reducible exact Below.refl _ _) | (with_reducible assumption) | (with_reducible refine Below.alloc ?_ ?_ _) | (with_reducible refine Below.drew ?_) | (with_reducible refine Below.setCell ?_ ?_ _) | (with_reducible exact Nat.le_refl _) | omega | ((repeat (first | rewrite [World.size_alloc] | rewrite [World.size_setCell] | rewrite [World.size_drew])); omega) | (simp; omega) | (simp; done)))) (below_grown hg1 (by simp) (fun g e => by have e' : some wx.heap.size = some g := e; cases e'; omega)))
                    | (refine step_appM rfl (.tmp 34) (.tmp 38) rfl wx.heap.size _ _ p2 ⟨b, off + (i + 1) * 2, none⟩ (cap - (i + 1)) (by rfl) (by rw [hldk]; rfl) ho1.out (HCQ.out _ hb1') (by simpa using hsum) (by have := hg1.size; simp at this; omega) ?_; intro v2 w2 ho2 hg2))
          have hz1 := hg1.size
          have hz2 := hg2.size
          simp only [World.size_alloc, World.size_drew] at hz1
          have hge1 := own_block_ge ho1.out
          have hb2 : Below wx.heap.size wx w2 := hb1'.trans (below_grown hg2 (by omega) (fun g e => by have := hge1 g e; omega))
          have ho2' : w2.ownsRow wx.heap.size 31 2 v2 (ws.eraseIdx i).length (mcells (ws.eraseIdx i)) := by
            have := ho2.out
            rw [List.nil_append, HER.out] at this
            exact this
          have HO2 := Lib.hid ho2'
          clear hg1 hg2 ho1 ho2 hb1' ho2' hge1 hz1 hz2 HCP HCQ HER
          
          have hov4 := own_keep hov3 hb2
          have hB4 := hB3.trans (hb2.mono hs3)
          have hlv2 : lenV v2 = (ws.eraseIdx i).length := by obtain ⟨A, c, e, _⟩ := Rd.of_own HO2.out; rw [e]; rfl
          have hR : OwSs w 31 33 bs k v3 v2 w2 := ⟨_, ws.eraseIdx i, HNEW.out.1, HNEW.out.2.1, HNEW.out.2.2.1, HNEW.out.2.2.2.1, HNEW.out.2.2.2.2.1, HNEW.out.2.2.2.2.2.1, own_more HO2.out hs3, hov4, hB4⟩
          have hlt5 := HNEW.out.2.2.2.2.2.2
          clear hov4 hB4 hov3 hrdx ho3 hB3 hb2
          go_simp
          try go_wp2
          go_roundw
          case rel => exact ⟨k, hR⟩
          case measure => rw [hlv2]; exact hlt5
  · have HNO := Lib.hid (owS_no hm1)
    have HM1 := Lib.hid hm1
    rw [hm1] at HV
    clear hx hz hm1
    go_enter Try.func32, Try.ntmps32
    go_wp2_with fail
    refine HV.out.mono ?_
    rintro e w1 ⟨rfl, hb1⟩
    have hE1 := own_keep hE0 hb1
    have hB1 := hb0.trans (hb1.mono hb0.size)
    go_wp2
    go_ret2
    exact ⟨_, by rw [HM1.out]; rfl, by rw [HNO.out]; exact hE1, hB1⟩
end Go.Proofs.Yteadhnpmmpninaa
namespace Go.PS
open Go.PM Go.RowKit
theorem rsW_lt : ∀ (n : Nat) (g : Nat → Nat) (p : Nat), Prm g → p < 9 → ∀ x ∈ (rsW n g p).1, x.1 < 9 ∧ x.2 < 9
  | 0, g, p, _, _ => by simp [rsW]
  | n + 1, g, p, h, hp => by
    by_cases e : hold g p = p
    · rw [rsW_stop _ e]; simp
    · rw [rsW_go _ e]
      have h1 := h.hold hp
      have h2 := rsW_lt n _ _ (h.swp hp h1.1) h1.1
      intro x hx
      rw [List.mem_cons] at hx
      rcases hx with rfl | hx
      · exact ⟨hp, h1.1⟩
      · exact h2 x hx
theorem rsA_lt {g : Nat → Nat} (h : Prm g) : ∀ k, k ≤ 9 → ∀ x ∈ (rsA k g).1, x.1 < 9 ∧ x.2 < 9
  | 0, _ => by simp [rsA]
  | k + 1, hk => by
    intro x hx
    simp only [rsA, List.mem_append] at hx
    rcases hx with hx | hx
    · exact rsA_lt h k (by omega) x hx
    · exact rsW_lt 9 _ k (rsA_prm h k (by omega)) (by omega) x hx
theorem rwM_lt {xs : List Mv} (h : MV xs) : ∀ x ∈ rwM xs, x.1 < 9 ∧ x.2 < 9 := by
  rw [← rw_del h]; exact rsA_lt (inv_prm (del_exch h)) 9 (Nat.le_refl _)
theorem takM_ok {xs : List Mv} (h : MV xs) : ∀ m ∈ takM xs, (isP m.1 = true ∨ m.1 = spT) ∧ okR m.2 := fun m hm =>
  have hw := busyF_Wt h
  have hb := tak_sub 9 _ m hm
  ⟨.inl (hw.to_ _ hb), hw.from_ _ hb⟩
theorem owS_ok {xs : List Mv} (h : MV xs) : ∀ x ∈ owS xs, stOk x = true := by
  rw [owS_yes (by simpa [mvalid] using h)]
  intro x hx
  rw [List.mem_append] at hx
  rcases hx with hx | hx
  · obtain ⟨m, hm, rfl⟩ := List.mem_map.1 hx
    exact stOk_M (takM_ok h m hm).1 (takM_ok h m hm).2
  · obtain ⟨p, hp, rfl⟩ := List.mem_map.1 hx
    obtain ⟨h1, h2⟩ := rwM_lt h p hp
    have a1 := (cidx_P (isP_nm h1)).1
    have a2 := (cidx_P (isP_nm h2)).1
    unfold stOk swS
    simp only [a1, a2]
    rfl
theorem owS_valid {xs : List Mv} (h : MV xs) : svalid (owS xs) = true := by
  unfold svalid
  rw [Bool.and_eq_true, decide_eq_true_eq, List.all_eq_true]
  exact ⟨by have := owS_le xs; omega, owS_ok h⟩
end Go.PS
namespace Go.Proofs.Yteadhnpmmpninaa
open Go.RowKit Go.PM Go.PS
attribute [local go_sem] Oper.semAt_some

set_option maxRecDepth 100000 in
set_option maxHeartbeats 1600000 in
theorem spBestCost_c (xs : List Mv) (s : Int) (v : Value) (w : World) (hx : RdM w v xs) (hz : ∀ m ∈ xs, m.1.size ≤ 9223372036854775807 ∧ m.2.size ≤ 9223372036854775807) (hn' : xs.length ≤ 1048576) :
    Calls Try.prog 40 #[v, .int .i64 s] w fun e w' => e = .returned (.int .i64 (bestI xs s)) ∧ Below w.heap.size w w' := by
  have HC : Hid (bestI xs s = if mvalid xs = true ∧ 0 ≤ s ∧ s ≤ 100 then min (costN s (owS xs)) (cioI xs) else -1) := rfl
  have HO := Lib.hid (spOrderWithSwaps_c xs v w hx hz hn')
  have HI := Lib.hid (fun W => l1In_c s 0 100 W)
  rcases Bool.eq_false_or_eq_true (mvalid xs) with hv | hv
  · by_cases hs : 0 ≤ s ∧ s ≤ 100
    · have hI : inB s 0 100 = true := by rw [inB_cost]; simpa using hs
      have HC' : Hid (bestI xs s = min (costN s (owS xs)) (cioI xs)) := by have := HC.out; rwa [if_pos ⟨hv, hs.1, hs.2⟩] at this
      have HL := Lib.hid (fun v W (h : RdS W v (owS xs)) => l7Cost_c s hs.1 hs.2 (owS xs) (by have := owS_le xs; omega) v W h)
      have HN := Lib.hid (fun W (h : RdM W v xs) => spCountInOrder_c xs v W h hz hn')
      have HX := Lib.hid hx
      rw [hI] at HI
      rw [hv] at HO
      clear HC hs hI hv hx hz hn'
      generalize bestI xs s = bi at *
      have hmn : ∀ (w : World) (ts : Array TypeId) (t : TypeId), (Builtin.min_ ts t #[.int .i64 (costN s (owS xs)), .int .i64 (cioI xs)]).run Try.prog w = .ok (.int .i64 bi) w := fun w ts t => by
        rw [run_min_int2, HC'.out]; congr 2; rw [Int.min_def]; split <;> split <;> omega
      clear HC'
      generalize costN s (owS xs) = c1 at *
      generalize cioI xs = c2 at *
      go_enter Try.func40, Try.ntmps40
      go_wp2_with fail
      refine HO.out.mono ?_
      rintro e w1 ⟨v1, rfl, ho1, hb1⟩
      have hr1 := Rd.of_own ho1
      have hx1 := HX.out.below hb1
      clear HO ho1
      go_wp2_with (first | (go_at_call 77; refine (HI.out _).mono ?_; rintro e w' ⟨rfl, rfl⟩) | (go_at_call 78; refine (HL.out _ _ hr1).mono ?_; rintro e w2 ⟨rfl, hb2⟩) | (go_at_call 82; refine (HN.out _ (hx1.below hb2)).mono ?_; rintro e w3 ⟨rfl, hb3⟩))
      go_ret
      exact ⟨rfl, (hb1.trans (hb2.mono hb1.size)).trans (hb3.mono (Nat.le_trans hb1.size hb2.size))⟩
    · have hI : inB s 0 100 = false := by rw [inB_cost]; simpa using hs
      have HC' : Hid (bestI xs s = -1) := by have := HC.out; rwa [if_neg (fun h => hs ⟨h.2.1, h.2.2⟩)] at this
      rw [hI] at HI
      rw [hv] at HO
      clear HC hs hI hv hx hz
      go_enter Try.func40, Try.ntmps40
      go_wp2_with fail
      refine HO.out.mono ?_
      rintro e w1 ⟨v1, rfl, ho1, hb1⟩
      clear HO ho1
      go_wp2_with (first | (go_at_call 77; refine (HI.out _).mono ?_; rintro e w' ⟨rfl, rfl⟩))
      go_ret
      exact ⟨by rw [HC'.out]; rfl, hb1⟩
  · have HC' : Hid (bestI xs s = -1) := by have := HC.out; rwa [if_neg (fun h => by rw [hv] at h; cases h.1)] at this
    rw [hv] at HO
    clear HC hv hx hz
    go_enter Try.func40, Try.ntmps40
    go_wp2_with fail
    refine HO.out.mono ?_
    rintro e w1 ⟨v1, rfl, ho1, hb1⟩
    clear HO ho1
    go_wp2
    go_ret
    exact ⟨by rw [HC'.out]; rfl, hb1⟩
theorem costI_neg {xs : List St} {s : Int} (h : svalid xs = true) : costI xs s = if 0 ≤ s ∧ s ≤ 100 then costN s xs else -1 := by
  unfold costI
  by_cases hs : 0 ≤ s ∧ s ≤ 100
  · rw [if_pos ⟨h, hs⟩, if_pos hs]
  · rw [if_neg (fun e => hs e.2), if_neg hs]
set_option maxRecDepth 100000 in
set_option maxHeartbeats 1600000 in
theorem imBestCost_c (xs : List Mv) (s : Int) (v : Value) (w : World) (hx : RdM w v xs) (hn' : xs.length ≤ 1048576) :
    Calls Try.prog 41 #[v, .int .i64 s] w fun e w' => e = .returned (.int .i64 (bestI xs s)) ∧ Below w.heap.size w w' := by
  have HC : Hid (bestI xs s = if mvalid xs = true ∧ 0 ≤ s ∧ s ≤ 100 then min (costN s (owS xs)) (cioI xs) else -1) := rfl
  have HO := Lib.hid (imOrderWithSwaps_c xs v w hx)
  have HS := Lib.hid (fun v W (h : RdS W v (owS xs)) => imSwapCost_c (owS xs) s v W h)
  rcases Bool.eq_false_or_eq_true (mvalid xs) with hv | hv
  · have hc := costI_neg (s := s) (owS_valid (by simpa [mvalid] using hv))
    by_cases hs : 0 ≤ s ∧ s ≤ 100
    · have HC' : Hid (bestI xs s = min (costN s (owS xs)) (cioI xs)) := by have := HC.out; rwa [if_pos ⟨hv, hs.1, hs.2⟩] at this
      rw [if_pos hs] at hc
      rw [hc] at HS
      have hge := (costN_le hs.1 hs.2 (owS xs)).1
      have HN := Lib.hid (fun W (h : RdM W v xs) => imCountInOrder_c xs v W h hn')
      have HX := Lib.hid hx
      rw [hv] at HO
      clear HC hs hv hx hn' hc
      generalize bestI xs s = bi at *
      have hmn : ∀ (w : World) (ts : Array TypeId) (t : TypeId), (Builtin.min_ ts t #[.int .i64 (costN s (owS xs)), .int .i64 (cioI xs)]).run Try.prog w = .ok (.int .i64 bi) w := fun w ts t => by
        rw [run_min_int2, HC'.out]; congr 2; rw [Int.min_def]; split <;> split <;> omega
      clear HC'
      generalize costN s (owS xs) = c1 at *
      generalize cioI xs = c2 at *
      go_enter Try.func41, Try.ntmps41
      go_wp2_with fail
      refine HO.out.mono ?_
      rintro e w1 ⟨v1, rfl, ho1, hb1⟩
      have hr1 := Rd.of_own ho1
      have hx1 := HX.out.below hb1
      clear HO ho1
      go_wp2_with (first | (go_at_call 39; refine (HS.out _ _ hr1).mono ?_; rintro e w2 ⟨rfl, hb2⟩) | (go_at_call 83; refine (HN.out _ (hx1.below hb2)).mono ?_; rintro e w3 ⟨rfl, hb3⟩))
      go_ret
      exact ⟨rfl, (hb1.trans (hb2.mono hb1.size)).trans (hb3.mono (Nat.le_trans hb1.size hb2.size))⟩
    · have HC' : Hid (bestI xs s = -1) := by have := HC.out; rwa [if_neg (fun h => hs ⟨h.2.1, h.2.2⟩)] at this
      rw [if_neg hs] at hc
      rw [hc] at HS
      rw [hv] at HO
      clear HC hs hv hx hc
      go_enter Try.func41, Try.ntmps41
      go_wp2_with fail
      refine HO.out.mono ?_
      rintro e w1 ⟨v1, rfl, ho1, hb1⟩
      have hr1 := Rd.of_own ho1
      clear HO ho1
      go_wp2_with (first | (go_at_call 39; refine (HS.out _ _ hr1).mono ?_; rintro e w2 ⟨rfl, hb2⟩))
      go_ret
      exact ⟨by rw [HC'.out]; rfl, hb1.trans (hb2.mono hb1.size)⟩
  · have HC' : Hid (bestI xs s = -1) := by have := HC.out; rwa [if_neg (fun h => by rw [hv] at h; cases h.1)] at this
    rw [hv] at HO
    clear HC hv hx
    generalize costI (owS xs) s = ci at *
    go_enter Try.func41, Try.ntmps41
    go_wp2_with fail
    refine HO.out.mono ?_
    rintro e w1 ⟨v1, rfl, ho1, hb1⟩
    have hr1 := Rd.of_own ho1
    clear HO ho1
    go_wp2_with (first | (go_at_call 39; refine (HS.out _ _ hr1).mono ?_; rintro e w2 ⟨rfl, hb2⟩))
    go_ret
    exact ⟨by rw [HC'.out]; rfl, hb1.trans (hb2.mono hb1.size)⟩
end Go.Proofs.Yteadhnpmmpninaa
namespace Go.Proofs.Yteadhnpmmpninaa
open Go.RowKit Go.PM Go.ChangeShapes Go.WideShapes Go.Deep

theorem own : ownKnob Try.prog.godebug = none := by kernel_rfl
theorem laidOut : laidOutB Try.prog = true := by kernel_rfl

theorem exists_list {α : Type} (Q : Nat → α → Prop) : ∀ n, (∀ i, i < n → ∃ m, Q i m) → ∃ xs : List α, xs.length = n ∧ ∀ i (h : i < xs.length), Q i xs[i]
  | 0, _ => ⟨[], rfl, fun i h => absurd h (Nat.not_lt_zero _)⟩
  | n + 1, h => by
    obtain ⟨xs, hl, hx⟩ := exists_list Q n fun i hi => h i (by omega)
    obtain ⟨m, hm⟩ := h n (by omega)
    refine ⟨xs ++ [m], by simp [hl], fun i hi => ?_⟩
    by_cases h1 : i < xs.length
    · rw [List.getElem_append_left h1]; exact hx i h1
    · have h2 : i = xs.length := by simp at hi; omega
      subst h2
      rw [List.getElem_append_right (Nat.le_refl _)]
      simpa [hl] using hm

theorem rdM_mk {w : World} {ad : Addr} {cap : Nat} (xs : List Mv) (hc : xs.length ≤ cap) (hn : xs.length ≤ 9223372036854775807)
    (h : ∀ i (hi : i < xs.length), w.cell? (ad.add (i * 2)) = some (.string xs[i].1) ∧ w.cell? ((ad.add (i * 2)).add 1) = some (.string xs[i].2)) : RdM w (.slice (some ad) xs.length cap) xs := by
  refine ⟨some ad, cap, rfl, hc, hn, mcells_length xs, fun h0 => ?_⟩
  have h1 := (h 0 h0).1
  obtain ⟨b, off, spot⟩ := ad
  have hs : spot = none := by
    have := World.cell?_spot h1
    simpa [Addr.add] using this
  subst hs
  have hadd : ∀ o i, (Addr.mk b o none).add i = ⟨b, o + i, none⟩ := fun o i => by
    unfold Addr.add; split
    · next h => subst h; rfl
    · rfl
  refine ⟨b, off, rfl, ?_, fun j u hu => ?_⟩
  · rcases Nat.lt_or_ge b w.heap.size with hlt | hge
    · exact hlt
    · rw [hadd] at h1
      simp [World.cell?, Array.getElem?_eq_none hge] at h1
  · have hj : j < xs.length * 2 := by rw [← mcells_length]; exact (List.getElem?_eq_some_iff.1 hu).1
    have hk : j / 2 < xs.length := by omega
    have hm := mcells_at xs (j / 2) _ (List.getElem?_eq_getElem hk)
    have hh := h (j / 2) hk
    rw [hadd, hadd] at hh
    rcases Nat.mod_two_eq_zero_or_one j with h0 | h0
    · have e : j / 2 * 2 = j := by omega
      rw [e] at hm hh
      rw [hm.1] at hu
      rw [hh.1, hu]
    · have e : j / 2 * 2 + 1 = j := by omega
      rw [e] at hm
      rw [Nat.add_assoc, e] at hh
      rw [hm.2] at hu
      rw [hh.2, hu]

set_option maxRecDepth 100000 in
theorem open_moves {H : Type} {enc : TypeId × Value → H} {W : World} {base fuel : Nat} {spare : Nat → Bool} {held : Bool} {a : Option Addr} {n c : Nat} {x : DataW H × List MemPlace}
    (h : DataW.trod enc Try.prog W base spare held fuel 40 [.slice a n c] = some x) :
    ∃ xs : List Mv, RdM W (.slice a n c) xs ∧ ∀ m ∈ xs, m.1.size ≤ 9223372036854775807 ∧ m.2.size ≤ 9223372036854775807 := by
  rcases open_slice Try.underlying40 h with ⟨hcs, _⟩ | ⟨ad, len, cap, m, k, D, Pl, hcs, hb, hl, hm, hmm, hx, hi⟩
  · simp at hcs
    obtain ⟨rfl, rfl, rfl⟩ := hcs
    exact ⟨[], ⟨none, 0, rfl, by simp, by simp, rfl, by simp⟩, by simp⟩
  · simp at hcs
    obtain ⟨rfl, rfl, rfl⟩ := hcs
    have hC : Try.prog.cellsOf 80 = 2 := by kernel_rfl
    have hml : n ≤ m := by rw [hmm]; split <;> omega
    have hM : maxLen = 9223372036854775807 := rfl
    obtain ⟨xs, hxl, hxs⟩ := exists_list (fun i (m : Mv) => W.cell? (ad.add (i * 2)) = some (.string m.1) ∧ W.cell? ((ad.add (i * 2)).add 1) = some (.string m.2) ∧ m.1.size ≤ 9223372036854775807 ∧ m.2.size ≤ 9223372036854775807) n (fun i hin => by
      obtain ⟨cs', hc', ht⟩ := hi i (by omega)
      rw [hC] at hc'
      obtain ⟨y0, y1, k', _, hlen, h0, h1⟩ := trod_struct2 Try.underlying80 ht
      obtain ⟨_, hcl, hat⟩ := World.cells?_some hc'
      rw [hC] at hlen
      match cs', hlen with
      | [c0, c1], _ =>
        have e0 : Try.prog.cellsOf 9 = 1 := by kernel_rfl
        simp only [e0] at h0 h1
        simp at h0 h1
        obtain ⟨s, hs, _, hs1⟩ := DataW.trod_string Try.underlying9 h0
        obtain ⟨t, hta, _, ht1⟩ := DataW.trod_string Try.underlying9 h1
        simp at hs hta
        subst hs hta
        refine ⟨(s, t), ?_, ?_, hM ▸ hs1, hM ▸ ht1⟩
        · have := hat 0 (by omega)
          simpa [Addr.add] using this
        · have := hat 1 (by omega)
          simpa using this)
    subst hxl
    refine ⟨xs, rdM_mk xs hl (by omega) fun i hi => ⟨(hxs i hi).1, (hxs i hi).2.1⟩, fun m hm => ?_⟩
    obtain ⟨i, hi, rfl⟩ := List.getElem_of_mem hm
    exact (hxs i hi).2.2
end Go.Proofs.Yteadhnpmmpninaa
namespace Go.Proofs.Yteadhnpmmpninaa
open Go.RowKit Go.PM Go.PS
set_option maxRecDepth 100000 in
set_option maxHeartbeats 1600000 in
theorem exBestCost (w : World) (xs0 : List Mv) (v0 : Value) (hx0 : RdM w v0 xs0) (hz0 : ∀ m ∈ xs0, m.1.size ≤ 9223372036854775807 ∧ m.2.size ≤ 9223372036854775807) (n1 : Int) {P1 : Prop} (_wn1 : P1) :
    Calls Try.prog 9 #[v0, .int .i64 n1] w fun e w' => e = .returned (.bool true) ∧ Below w.heap.size w w' := by
  go_enter Try.func9, Try.ntmps9
  go_wp2_with fail
  refine (szMoveS_c xs0 v0 1048576 _ (by decide) (by decide) hx0 hz0).mono ?_
  rintro e w1 ⟨⟨r0, rfl, hr0, hq0⟩, Hw1⟩
  have HR0 := Lib.hid hr0
  clear hr0
  have Bw1 := Hw1
  have Zw1 := Bw1.size
  by_cases hneg0 : r0 < 0
  · go_wp2
    go_ret
    exact ⟨rfl, Bw1⟩
  have hl0 : xs0.length ≤ 1048576 := by have := HR0.out (by omega); have := msize_len xs0; omega
  have hm0 : msize xs0 ≤ 1048576 := by have := HR0.out (by omega); omega
  go_wp2_with fail
  refine (toMoveS_c xs0 v0 _ (hx0.below Bw1) hl0).mono ?_
  rintro e w2 ⟨uw2, rfl, how2, Hw2⟩
  have Bw2 : Below w.heap.size w w2 := Bw1.trans (Hw2.mono Zw1)
  have Zw2 := Bw2.size
  have Rw2 : RdM w2 uw2 xs0 := Rd.of_own how2
  go_wp2_with fail
  refine (spBestCost_c xs0 n1 uw2 _ Rw2 hz0 hl0).mono ?_
  rintro e w3 ⟨rfl, Hw3⟩
  have Bw3 : Below w.heap.size w w3 := Bw2.trans (Hw3.mono Zw2)
  have Zw3 := Bw3.size
  go_wp2_with fail
  refine (toMoveS_c xs0 v0 _ (hx0.below Bw3) hl0).mono ?_
  rintro e w4 ⟨uw4, rfl, how4, Hw4⟩
  have Bw4 : Below w.heap.size w w4 := Bw3.trans (Hw4.mono Zw3)
  have Zw4 := Bw4.size
  have Rw4 : RdM w4 uw4 xs0 := Rd.of_own how4
  go_wp2_with fail
  refine (imBestCost_c xs0 n1 uw4 _ Rw4 hl0).mono ?_
  rintro e w5 ⟨rfl, Hw5⟩
  have Bw5 : Below w.heap.size w w5 := Bw4.trans (Hw5.mono Zw4)
  have Zw5 := Bw5.size
  have Q0 : RdM w5 uw4 xs0 := Rw4.below Hw5
  go_wp2_with fail
  refine (toMoveS_c xs0 v0 _ (hx0.below Bw5) hl0).mono ?_
  rintro e w6 ⟨uw6, rfl, how6, Hw6⟩
  have Bw6 : Below w.heap.size w w6 := Bw5.trans (Hw6.mono Zw5)
  have Zw6 := Bw6.size
  have Rw6 : RdM w6 uw6 xs0 := Rd.of_own how6
  go_wp2_with fail
  refine (eqMoveS_c xs0 xs0 uw4 uw6 _ (Q0.below Hw6) Rw6).mono ?_
  rintro e w7 ⟨he0, Hw7⟩
  rw [show decide (xs0 = xs0) = true by simp] at he0
  subst he0
  have Bw7 : Below w.heap.size w w7 := Bw6.trans (Hw7.mono Zw6)
  have Zw7 := Bw7.size
  go_wp2
  go_ret
  exact ⟨rfl, Bw7⟩

namespace fnExactBestCost
open Go.RowKit Go.PM Go.ChangeShapes Go.WideShapes Go.ChangeAt
open Go.ChangeMaps (open_string shut_string)
set_option maxRecDepth 100000 in
theorem lifted (os : Os) (started : os.Started) (H : Type) (enc : TypeId × Value → H) :
    ReturnsInHanded {} Try.checked os 9 .any (Rows.fnExactBestCostSpec.pre6 enc Try.prog Try.f9 Rows.fnExactBestCostRow.domain false) (Rows.fnExactBestCostSpec.post enc Try.prog Try.f9 false true false false) := by
  refine returnsInHanded_of_change (C := Try.checked) own started (by kernel_rfl) Try.func9
    (ChangeSpec.witness6 (enc := enc) (C := Try.checked) false ⟨#[], #[.slice none 0 0, .int .i64 0], []⟩ 8 (by kernel_rfl) (by kernel_rfl) (by kernel_rfl) (by kernel_rfl)) ?_
  intro W base args ds gs before hval0 hW hcnd _
  have hval : ∀ (j : Nat) t v, Try.f9.params[j]? = some t → args[j]? = some v → Value.okWide Try.prog W .any base t v := hval0
  have hW' := hW
  obtain ⟨p, q, hA0, hV, rfl, hfz, hnd⟩ := hW
  have hA : DataW.TrodAll enc Try.prog W 0 (fun _ => true) true Try.f9.params.toList args.toList ds p := hA0
  rw [Try.params9] at hA hval
  obtain ⟨v0, vs0, d0, ds0, p0, q0, hargs, rfl, rfl, h0, r0⟩ := trodAll_cons hA
  obtain ⟨v1, vs1, d1, ds1, p1, q1, rfl, rfl, rfl, h1, r1⟩ := trodAll_cons r0
  obtain ⟨rfl, rfl, rfl⟩ := trodAll_nil r1
  obtain rfl : args = #[v0, v1] := by cases args; simp_all
  obtain ⟨rfl, rfl⟩ := trodVars_none hV
  have k0 := h0
  have lt0 : ∀ x ∈ p0, x.block < W.heap.size := by obtain ⟨m, hm⟩ := k0; exact DataW.trod_lt m _ _ _ hm
  have k1 := h1
  have lt1 : ∀ x ∈ p1, x.block < W.heap.size := by obtain ⟨m, hm⟩ := k1; exact DataW.trod_lt m _ _ _ hm
  obtain ⟨a0, len0, cap0, rfl⟩ := okWide_slice Try.underlying40 (hval 0 40 v0 rfl rfl)
  obtain ⟨xs0, hx0, hz0⟩ : ∃ xs : List Mv, RdM W (.slice a0 len0 cap0) xs ∧ ∀ m ∈ xs, m.1.size ≤ 9223372036854775807 ∧ m.2.size ≤ 9223372036854775807 := by obtain ⟨fuel, hf⟩ := h0; exact open_moves hf
  obtain ⟨n1, rfl, _, _, wn1⟩ := open_int Try.underlying3 (hval 1 3 v1 rfl rfl) h1
  clear hA0 hval0
  refine (exBestCost W xs0 _ hx0 hz0 n1 wn1).mono fun e W' ⟨he, bel⟩ => ?_
  subst he
  exact ⟨_, rfl, _, _, _, [], _, [], hW', trodAll_mk1 (shut_bool Try.underlying4 _), (trodAll_cons_mk (Below.trod laidOut (by kernel_rfl) (of_decide_eq_true (by kernel_rfl)) k0 bel lt0) (trodAll_cons_mk (Below.trod laidOut (by kernel_rfl) (of_decide_eq_true (by kernel_rfl)) k1 bel lt1) trodAll_mk0)), rfl, bel.frame _, fun h => by cases h⟩

theorem over : Rows.fnExactBestCostRow.holds Try.pinned (OpenSpec.ofChange Rows.fnExactBestCostSpec) :=
  OpenClaim.holds_of_wide 9 Try.f9 rfl rfl rfl rfl rfl rfl rfl ⟨rfl, rfl, rfl, rfl, rfl⟩ rfl rfl rfl rfl rfl (by kernel_rfl) Try.func9 (by kernel_rfl)
    (of_decide_eq_true (by kernel_rfl)) (by unfold Func.isWrapper; first | (rw [if_pos (by decide +kernel)]; kernel_rfl) | (rw [if_neg (by decide +kernel)]; exact ⟨rfl, rfl⟩))
    (fun os started H enc _ => lifted os started H enc)

/-- The statement. -/
theorem proved : Rows.FnExactBestCostSaid := over
end fnExactBestCost
end Go.Proofs.Yteadhnpmmpninaa
