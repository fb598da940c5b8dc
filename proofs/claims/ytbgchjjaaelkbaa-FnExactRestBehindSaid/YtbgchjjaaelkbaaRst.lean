import Derived.Test.YtbgchjjaaelkbaaSpN
import Derived.Test.YtbgchjjaaelkbaaRed
import Derived.Test.YtbgchjjaaelkbaaHold
import Derived.Test.YtbgchjjaaelkbaaPmSame
import Derived.Stop.RegionWithIn
import Derived.Deep.RegionWith
namespace Go.PM
open Go.RowKit
def idxI (xs : List Mv) (m : Mv) : Option Nat := xs.findIdx? fun x => mvEq m.1 m.2 x.1 x.2
def idxZ (xs : List Mv) (m : Mv) : Int := match idxI xs m with
  | some i => (i : Int)
  | none => -1
theorem mvEq_iff {a b c d : ByteArray} : mvEq a b c d = true ↔ a = c ∧ b = d := by unfold mvEq; exact decide_eq_true_iff
theorem idxZ_at {xs : List Mv} {m : Mv} {k : Nat} (hk : k < xs.length) (h : ∀ j (hj : j < k), mvEq m.1 m.2 (xs[j]'(by omega)).1 (xs[j]'(by omega)).2 = false) (hf : mvEq m.1 m.2 xs[k].1 xs[k].2 = true) : idxZ xs m = (k : Int) := by
  have : idxI xs m = some k := by
    unfold idxI
    rw [List.findIdx?_eq_some_iff_getElem]
    exact ⟨hk, hf, fun j hj => by rw [h j hj]; decide⟩
  unfold idxZ; rw [this]
theorem idxZ_none {xs : List Mv} {m : Mv} (h : ∀ j (hj : j < xs.length), mvEq m.1 m.2 xs[j].1 xs[j].2 = false) : idxZ xs m = -1 := by
  have : idxI xs m = none := by
    unfold idxI
    rw [List.findIdx?_eq_none_iff]
    intro x hx
    obtain ⟨j, hj, rfl⟩ := List.getElem_of_mem hx
    exact h j hj
  unfold idxZ; rw [this]
theorem idxZ_lt (xs : List Mv) (m : Mv) : (idxZ xs m = -1 ∧ idxI xs m = none ∧ m ∉ xs) ∨ ∃ (i : Nat) (hi : i < xs.length), idxZ xs m = i ∧ idxI xs m = some i ∧ xs[i] = m := by
  cases h : idxI xs m with
  | none =>
    left
    refine ⟨by unfold idxZ; rw [h], rfl, fun hm => ?_⟩
    unfold idxI at h
    have := List.findIdx?_eq_none_iff.1 h m hm
    simp [mvEq] at this
  | some i =>
    right
    unfold idxI at h
    obtain ⟨h1, h2, _⟩ := List.findIdx?_eq_some_iff_getElem.1 h
    have := mvEq_iff.1 h2
    exact ⟨i, h1, by unfold idxZ idxI; rw [h], rfl, Prod.ext this.1.symm this.2.symm⟩
def restB (xs : List Mv) (m : Mv) : Bool := mvalid xs && (idxI xs m).isSome && freeB xs m
def restM (xs : List Mv) (m : Mv) : List Mv := if restB xs m then redM m (xs.eraseIdx ((idxI xs m).getD 0)) else []
theorem restM_len (xs : List Mv) (m : Mv) : (restM xs m).length ≤ 9 := by
  unfold restM; split
  · next h =>
    unfold restB at h
    rw [Bool.and_eq_true, Bool.and_eq_true] at h
    have := MV_len (xs := xs) (by simpa [mvalid] using h.1.1)
    rw [redM_len]
    exact Nat.le_trans (List.length_eraseIdx_le ..) this
  · simp
theorem filter_erase {xs : List Mv} (hn : xs.Nodup) {i : Nat} (hi : i < xs.length) : xs.filter (fun x => !mvEq x.1 x.2 xs[i].1 xs[i].2) = xs.eraseIdx i := by
  induction xs generalizing i with
  | nil => simp at hi
  | cons x xs ih =>
    rw [List.nodup_cons] at hn
    cases i with
    | zero =>
      have h1 : (!mvEq x.1 x.2 x.1 x.2) = false := by simp [mvEq]
      simp only [List.getElem_cons_zero]
      rw [List.filter_cons, if_neg (by rw [h1]; decide), List.eraseIdx_zero, List.tail_cons, List.filter_eq_self]
      intro y hy
      have : ¬ (y.1 = x.1 ∧ y.2 = x.2) := fun e => hn.1 (by rw [← Prod.ext e.1 e.2]; exact hy)
      simp [mvEq, this]
    | succ i =>
      have hi' : i < xs.length := by simpa using hi
      have h1 : (!mvEq x.1 x.2 xs[i].1 xs[i].2) = true := by
        have : ¬ (x.1 = xs[i].1 ∧ x.2 = xs[i].2) := fun e => hn.1 (by rw [Prod.ext e.1 e.2]; exact List.getElem_mem hi')
        simp [mvEq, this]
      simp only [List.getElem_cons_succ]
      rw [List.filter_cons, if_pos h1, List.eraseIdx_cons_succ, ih hn.2 hi']
def outK (xs : List Mv) (m : Mv) (k : Nat) : List Mv := (xs.take k).filter fun x => !mvEq x.1 x.2 m.1 m.2
def hasK (xs : List Mv) (m : Mv) (k : Nat) : Bool := (xs.take k).any fun x => mvEq x.1 x.2 m.1 m.2
theorem outK_succ (xs : List Mv) (m : Mv) (k : Nat) (hk : k < xs.length) : outK xs m (k + 1) = if mvEq xs[k].1 xs[k].2 m.1 m.2 = true then outK xs m k else outK xs m k ++ [xs[k]] := by
  unfold outK
  rw [take_snoc xs k hk, List.filter_append]
  by_cases h : mvEq xs[k].1 xs[k].2 m.1 m.2 = true
  · rw [if_pos h]; simp [h]
  · rw [if_neg h]; simp [h]
theorem hasK_succ (xs : List Mv) (m : Mv) (k : Nat) (hk : k < xs.length) : hasK xs m (k + 1) = (hasK xs m k || mvEq xs[k].1 xs[k].2 m.1 m.2) := by
  unfold hasK
  rw [take_snoc xs k hk, List.any_append]; simp
theorem outK_le (xs : List Mv) (m : Mv) (k : Nat) : (outK xs m k).length ≤ k := by
  unfold outK
  refine Nat.le_trans (List.length_filter_le _ _) ?_
  rw [List.length_take]; omega
theorem hasK_iff (xs : List Mv) (m : Mv) : hasK xs m xs.length = (idxI xs m).isSome := by
  rw [Bool.eq_iff_iff]
  rcases idxZ_lt xs m with ⟨_, h2, h3⟩ | ⟨i, hi, _, h2, h3⟩
  · rw [h2]
    unfold hasK
    rw [List.take_length, List.any_eq_true]
    constructor
    · rintro ⟨x, hx, e⟩
      have := mvEq_iff.1 e
      exact absurd (by rw [← Prod.ext this.1 this.2]; exact hx) h3
    · intro h; cases h
  · rw [h2]
    unfold hasK
    rw [List.take_length, List.any_eq_true]
    exact ⟨fun _ => rfl, fun _ => ⟨m, by rw [← h3]; exact List.getElem_mem hi, by simp [mvEq]⟩⟩
theorem MV_nodup {xs : List Mv} (h : MV xs) : xs.Nodup := map_inj_nodup h.2
/-- what the specification asks, where moves are valid and the move is there -/
theorem rest_facts {xs : List Mv} {m : Mv} (h : MV xs) {i : Nat} (hi : i < xs.length) (hx : xs[i] = m) (hI : idxI xs m = some i) :
    outK xs m xs.length = xs.eraseIdx i ∧ restB xs m = (!(decide (m.1 = m.2)) && !readB (xs.eraseIdx i) m.1) ∧ (restB xs m = true → restM xs m = if isP m.2 = true then instM m.2 m.1 (xs.eraseIdx i) else xs.eraseIdx i) := by
  have e1 : outK xs m xs.length = xs.eraseIdx i := by
    unfold outK
    rw [List.take_length, ← filter_erase (MV_nodup h) hi, hx]
  have hm : mvalid xs = true := by simpa [mvalid] using h
  have e2 : restB xs m = (!(decide (m.1 = m.2)) && !readB (xs.eraseIdx i) m.1) := by
    unfold restB freeB readB
    rw [hm, hI]
    have h1 := rdN_erase xs i hi m.1
    rw [hx] at h1
    rw [h1]
    by_cases e : m.1 = m.2
    · rw [if_pos e.symm]; simp [e]
    · rw [if_neg (fun e' => e e'.symm)]
      by_cases e0 : rdN (xs.eraseIdx i) m.1 = 0 <;> simp [e, e0]
  refine ⟨e1, e2, fun hr => ?_⟩
  unfold restM
  rw [if_pos hr, hI]
  show redM m (xs.eraseIdx i) = _
  have hok := h.1 m (by rw [← hx]; exact List.getElem_mem hi)
  unfold mok isS at hok
  rw [Bool.and_eq_true, Bool.or_eq_true] at hok
  unfold redM
  rcases hok.2 with h1 | h1
  · rw [if_neg (by rw [(isP_cases h1).1]; decide), if_pos h1]
  · rw [if_pos h1, if_neg (by rw [(isD_cases h1).1]; decide)]
end Go.PM
namespace Go.Proofs.Ytbgchjjaaelkbaa
open Go.RowKit Go.PM
attribute [local go_sem] Oper.semAt_some

set_option maxRecDepth 100000 in
set_option maxHeartbeats 1600000 in
theorem index_c (xs : List Mv) (v : Value) (m : Mv) (w : World) (hx : RdM w v xs) (hn' : xs.length ≤ 1048576) :
    Calls Try.prog 89 #[v, .agg #[.string m.1, .string m.2]] w fun e w' => e = .returned (.int .i64 (idxZ xs m)) ∧ Below w.heap.size w w' := by
  obtain ⟨A, cap, rfl, hn, hc, hcell⟩ := hx.open
  have HZ := Lib.hid (idxZ_none (xs := xs) (m := m))
  have HK := Lib.hid (fun k hk h => idxZ_at (xs := xs) (m := m) (k := k) hk h)
  have hA0 := At.new w 33 #[.string m.1, .string m.2]
  have hB0 : Below w.heap.size w (w.alloc (.cells #[.string m.1, .string m.2] 33)) := (Below.refl _ _).alloc (Nat.le_refl _) _
  clear hx
  go_enter Try.func89, Try.ntmps89
  go_wp2
  go_loopw [5, 8] (fun _ i wr => ∃ (k : Nat), k ≤ xs.length ∧ i = .int .i64 k ∧ Below w.heap.size w wr ∧ At wr w.heap.size 33 #[.string m.1, .string m.2] ∧ Hid (∀ j (hj : j < k) (hj2 : j < xs.length), mvEq m.1 m.2 xs[j].1 xs[j].2 = false)) (fun _ i _ => xs.length - (RowKit.intOf i).toNat)
  case atStart => exact ⟨0, by omega, rfl, hB0, hA0, fun j hj => by omega⟩
  case round =>
    obtain ⟨k, hk, rfl, hb, hA, hm⟩ := hrel
    have hbs := hb.size
    have hlA := hA.lt
    clear hA0 hB0
    by_cases hlt : k < xs.length
    · obtain ⟨b, off, rfl, hbl, hc1, hc2⟩ := hcell k hlt
      have hd1 := (hb.cell (p := ⟨b, off + k * 2, none⟩) hbl).trans hc1
      have hd2 := (hb.cell (p := ⟨b, off + k * 2 + 1, none⟩) hbl).trans hc2
      have hblr : b < wr.heap.size := by omega
      have HKK := Lib.hid (fun h => HK.out k hlt h)
      have HNX : Hid (mvEq m.1 m.2 xs[k].1 xs[k].2 = false → ∀ j (hj : j < k + 1) (hj2 : j < xs.length), mvEq m.1 m.2 xs[j].1 xs[j].2 = false) := fun h j hj hj2 => by
        by_cases e : j = k
        · subst e; exact h
        · exact hm.out j (by omega) hj2
      have hE := fun W => eq_mv m.1 m.2 xs[k].1 xs[k].2 W
      clear hc1 hc2 hcell
      generalize mvEq m.1 m.2 xs[k].1 xs[k].2 = fb at *
      generalize xs[k].1 = x1 at *
      generalize xs[k].2 = x2 at *
      have f1 : ∀ x : Ext wr.heap.size wr, x.val.cell? ⟨b, off + k * 2, none⟩ = some (.string x1) := fun x => (x.property.cell (p := ⟨b, _, none⟩) hblr).trans hd1
      have f2 : ∀ x : Ext wr.heap.size wr, x.val.cell? ⟨b, off + k * 2 + 1, none⟩ = some (.string x2) := fun x => (x.property.cell (p := ⟨b, _, none⟩) hblr).trans hd2
      have f3 : ∀ x : Ext wr.heap.size wr, x.val.cell? ⟨w.heap.size, 0, none⟩ = some (.string m.1) := fun x => (x.property.cell (p := ⟨w.heap.size, 0, none⟩) hlA).trans (hA.cell 0)
      have f4 : ∀ x : Ext wr.heap.size wr, x.val.cell? ⟨w.heap.size, 1, none⟩ = some (.string m.2) := fun x => (x.property.cell (p := ⟨w.heap.size, 1, none⟩) hlA).trans (hA.cell 1)
      have i0 : (0 : Int) ≤ (k : Int) := by omega
      have i1 : (k : Int) < (xs.length : Int) := by omega
      go_wp2
      refine wp_region_ext wr.heap.size (by kernel_rfl) (by kernel_rfl) ?_
      repeat (go_big_quiet_step (fail))
      refine wpQuiet_nil ?_
      intro w2 hw'
      obtain ⟨xw, hxw⟩ := hw'
      have hb2 := xw.property
      rw [← hxw] at hb2
      clear hxw xw f1 f2 f3 f4 hE hd1 hd2
      have hb3 := hb.trans (hb2.mono hbs)
      have hA3 := hA.keep hb2
      clear hb2 hA
      cases fb with
      | true =>
        go_wp2
        go_ret
        exact ⟨by rw [HKK.out (fun j hj => hm.out j hj (by omega)) (by first | trivial | rfl)]; rfl, hb3⟩
      | false =>
        go_wp2
        go_roundw
        case rel => exact ⟨k + 1, by omega, by go_num, hb3, hA3, HNX.out (by first | trivial | rfl)⟩
        case measure => simp [RowKit.intOf]; omega
    · have hz := HZ.out fun j hj => hm.out j (by omega) hj
      have HZZ := Lib.hid hz
      clear hz
      go_wp2
      go_ret
      exact ⟨by rw [HZZ.out]; rfl, hb⟩
set_option maxRecDepth 100000 in
set_option maxHeartbeats 3200000 in
theorem imRestBehind_c (xs : List Mv) (v : Value) (m : Mv) (w : World) (hx : RdM w v xs) (hn' : xs.length ≤ 1048576) :
    Calls Try.prog 38 #[v, .agg #[.string m.1, .string m.2]] w fun e w' => ∃ v', e = .returned (.tuple #[v', .bool (restB xs m)]) ∧ w'.ownsRow w.heap.size 33 2 v' (restM xs m).length (mcells (restM xs m)) ∧ Below w.heap.size w w' := by
  have HRM : Hid (restM xs m = if restB xs m then redM m (xs.eraseIdx ((idxI xs m).getD 0)) else []) := rfl
  have HRB : Hid (restB xs m = (mvalid xs && (idxI xs m).isSome && freeB xs m)) := rfl
  have hA0 := At.new w 33 #[.string m.1, .string m.2]
  have hB0 : Below w.heap.size w (w.alloc (.cells #[.string m.1, .string m.2] 33)) := (Below.refl _ _).alloc (Nat.le_refl _) _
  have q1 : (w.alloc (.cells #[.string m.1, .string m.2] 33)).cell? ⟨w.heap.size, 0, none⟩ = some (.string m.1) := hA0.cell 0
  have q2 : (w.alloc (.cells #[.string m.1, .string m.2] 33)).cell? ⟨w.heap.size, 1, none⟩ = some (.string m.2) := hA0.cell 1
  have HIX := Lib.hid (index_c xs v m _ (hx.below hB0) hn')
  have HX := Lib.hid (fun W (hW : Below w.heap.size w W) => hx.below hW)
  have HMV := Lib.hid (fun W (hW : RdM W v xs) => imMovesValid_c xs v W hW)
  have HCR := Lib.hid (fun W (hW : RdM W v xs) => countReaders_c xs v W hW hn')
  have HWO := Lib.hid (fun i hi W (hW : RdM W v xs) => without_c xs v i hi W hW hn')
  have HAH := Lib.hid (fun hp W => ahead_c xs m hp W hn')
  have HRE := Lib.hid (fun ys u W (hW : RdM W u ys) hl => redirected_c ys u m W hW hl)
  have HPP : Hid (∀ i (hi : i < xs.length), mvalid xs = true → xs[i] = m → isP m.1 = true) := fun i hi h e => by
    have h1 : MV xs := by simpa [mvalid] using h
    have := h1.1 m (by rw [← e]; exact List.getElem_mem hi)
    unfold mok at this; rw [Bool.and_eq_true] at this; exact this.1
  have hz := idxZ_lt xs m
  obtain ⟨A, cap, rfl, _⟩ := hx
  generalize cntC (cntF xs) = G at *
  go_enter Try.func38, Try.ntmps38
  go_wp2_with (go_at_call 89; refine HIX.out.mono ?_; rintro e w1 ⟨rfl, hb1⟩; refine held ?_)
  unfold Held
  have hB1 := hB0.trans (hb1.mono (by simp))
  have hA1 := hA0.keep hb1
  have hs1 := hB1.size
  have hl1 := hA1.lt
  have hR1 := HX.out _ hB1
  have f1 : ∀ x : Ext w1.heap.size w1, x.val.cell? ⟨w.heap.size, 0, none⟩ = some (.string m.1) := fun x => (x.property.cell (p := ⟨w.heap.size, 0, none⟩) hl1).trans (hA1.cell 0)
  have f2 : ∀ x : Ext w1.heap.size w1, x.val.cell? ⟨w.heap.size, 1, none⟩ = some (.string m.2) := fun x => (x.property.cell (p := ⟨w.heap.size, 1, none⟩) hl1).trans (hA1.cell 1)
  have gMV := fun x : Ext w1.heap.size w1 => HMV.out x.val (hR1.below x.property)
  have gCR := fun x : Ext w1.heap.size w1 => HCR.out x.val (hR1.below x.property)
  clear hb1 hA0 hB0 q1 q2 HIX HMV HCR
  rcases Bool.eq_false_or_eq_true (mvalid xs) with hm | hm
  · rcases hz with ⟨hz1, hz2, _⟩ | ⟨i, hi, hz1, hz2, hz3⟩
    · have hF : Hid (restB xs m = false) := by show _ = _; rw [HRB.out, hz2]; simp
      have gAH : True := trivial
      rw [hz1]
      rw [hm] at gMV
      clear hz2
      go_wp2
      refine wp_region_ext w1.heap.size (by kernel_rfl) (by kernel_rfl) ?_
      repeat (first | go_big_quiet_step (first | (go_at_call 43; exact ext_call _ (Nat.le_refl _) (gMV _)) | (go_at_call 90; exact ext_call _ (Nat.le_refl _) (gCR _)) | (go_at_call 91; exact ext_call _ (Nat.le_refl _) (gAH _))) | (refine wpQuiet_skip rfl ?_; simp only [Act.put, List.setIfInBounds_toArray, List.set_cons_succ, List.set_cons_zero]))
      refine wpQuiet_nil ?_
      intro w2 hw'
      obtain ⟨xw, hxw⟩ := hw'
      have hb2 := xw.property
      rw [← hxw] at hb2
      clear hxw xw f1 f2 gMV gCR gAH
      have hB2 := hB1.trans (hb2.mono hs1)
      clear hb2
      go_wp2
      go_ret2
      exact ⟨_, by rw [hF.out]; rfl, by rw [HRM.out, hF.out]; exact ⟨rfl, .inl ⟨rfl, rfl⟩⟩, hB2⟩
    · have hp := HPP.out i hi hm hz3
      have gAH := fun x : Ext w1.heap.size w1 => HAH.out hp x.val
      have hWOI := Lib.hid (fun W hW => HWO.out i hi W hW)
      have i2 : ¬ (i : Int) < 0 := by omega
      have i3 : decide ((i : Int) < 0) = false := decide_eq_false i2
      rw [hz1]
      rw [hm] at gMV
      rcases Bool.eq_false_or_eq_true (freeB xs m) with hf | hf
      · have hT : Hid (restB xs m = true) := by show _ = _; rw [HRB.out, hm, hz2, hf]; rfl
        have hRL : Hid (redM m (xs.eraseIdx i) = restM xs m) := by show _ = _; rw [HRM.out, hT.out, if_pos rfl, hz2]; rfl
        have hel : (xs.eraseIdx i).length ≤ 1048576 := Nat.le_trans (List.length_eraseIdx_le ..) hn'
        rw [hf] at gAH
        clear hz1 hz2 hz3 hp hf
        go_wp2
        refine wp_region_ext w1.heap.size (by kernel_rfl) (by kernel_rfl) ?_
        repeat (first | go_big_quiet_step (first | (go_at_call 43; exact ext_call _ (Nat.le_refl _) (gMV _)) | (go_at_call 90; exact ext_call _ (Nat.le_refl _) (gCR _)) | (go_at_call 91; exact ext_call _ (Nat.le_refl _) (gAH _))) | (refine wpQuiet_skip rfl ?_; simp only [Act.put, List.setIfInBounds_toArray, List.set_cons_succ, List.set_cons_zero]))
        refine wpQuiet_nil ?_
        intro w2 hw'
        obtain ⟨xw, hxw⟩ := hw'
        have hb2 := xw.property
        rw [← hxw] at hb2
        clear hxw xw f1 f2 gMV gCR gAH
        have hB2 := hB1.trans (hb2.mono hs1)
        have hA2 := hA1.keep hb2
        have hs2 := hB2.size
        have hl2 := hA2.lt
        have hwo := Lib.hid (hWOI.out w2.drew (HX.out _ hB2.drew))
        have hRE2 := Lib.hid (fun u W hW => HRE.out (xs.eraseIdx i) u W hW hel)
        generalize xs.eraseIdx i = er at *
        have r1 : w2.drew.cell? ⟨w.heap.size, 0, none⟩ = some (.string m.1) := hA2.cell 0
        have r2 : w2.drew.cell? ⟨w.heap.size, 1, none⟩ = some (.string m.2) := hA2.cell 1
        clear hb2
        go_wp2
        go_region_with (first
          | (go_at_call 93; refine hwo.out.mono ?_; rintro e w3 ⟨v3, rfl, ho3, hb3⟩; have s1 := (hb3.cell (p := ⟨w.heap.size, 0, none⟩) hl2).trans r1; have s2 := (hb3.cell (p := ⟨w.heap.size, 1, none⟩) hl2).trans r2)
          | (go_at_call 92; refine (hRE2.out _ _ (Rd.of_own ho3)).mono ?_; rintro e w4 ⟨v4, rfl, ho4, hb4⟩))
        all_goals
          have hB3 : Below w.heap.size w w3 := hB2.drew.trans (hb3.mono hs2)
          have hB4 := hB3.trans (hb4.mono hB3.size)
          have ho5 := own_more ho4 hB3.size
          rw [hRL.out] at ho5
          have HO := Lib.hid ho5
          clear ho3 ho4 hb3 hb4 s1 s2 r1 r2 ho5
          go_wp2
          go_ret2
          exact ⟨_, by rw [hT.out]; rfl, HO.out, hB4⟩
      · have hF : Hid (restB xs m = false) := by show _ = _; rw [HRB.out, hf]; simp
        rw [hf] at gAH
        clear hz1 hz2 hz3 hp hf
        go_wp2
        refine wp_region_ext w1.heap.size (by kernel_rfl) (by kernel_rfl) ?_
        repeat (first | go_big_quiet_step (first | (go_at_call 43; exact ext_call _ (Nat.le_refl _) (gMV _)) | (go_at_call 90; exact ext_call _ (Nat.le_refl _) (gCR _)) | (go_at_call 91; exact ext_call _ (Nat.le_refl _) (gAH _))) | (refine wpQuiet_skip rfl ?_; simp only [Act.put, List.setIfInBounds_toArray, List.set_cons_succ, List.set_cons_zero]))
        refine wpQuiet_nil ?_
        intro w2 hw'
        obtain ⟨xw, hxw⟩ := hw'
        have hb2 := xw.property
        rw [← hxw] at hb2
        clear hxw xw f1 f2 gMV gCR gAH
        have hB2 := hB1.trans (hb2.mono hs1)
        clear hb2
        go_wp2
        go_ret2
        exact ⟨_, by rw [hF.out]; rfl, by rw [HRM.out, hF.out]; exact ⟨rfl, .inl ⟨rfl, rfl⟩⟩, hB2⟩
  · have hF : Hid (restB xs m = false) := by show _ = _; rw [HRB.out, hm]; rfl
    have gAH : True := trivial
    rw [hm] at gMV
    generalize idxZ xs m = iz at *
    go_wp2
    refine wp_region_ext w1.heap.size (by kernel_rfl) (by kernel_rfl) ?_
    repeat (first | go_big_quiet_step (first | (go_at_call 43; exact ext_call _ (Nat.le_refl _) (gMV _)) | (go_at_call 90; exact ext_call _ (Nat.le_refl _) (gCR _)) | (go_at_call 91; exact ext_call _ (Nat.le_refl _) (gAH _))) | (refine wpQuiet_skip rfl ?_; simp only [Act.put, List.setIfInBounds_toArray, List.set_cons_succ, List.set_cons_zero]))
    refine wpQuiet_nil ?_
    intro w2 hw'
    obtain ⟨xw, hxw⟩ := hw'
    have hb2 := xw.property
    rw [← hxw] at hb2
    clear hxw xw f1 f2 gMV gCR gAH
    have hB2 := hB1.trans (hb2.mono hs1)
    clear hb2
    go_wp2
    go_ret2
    exact ⟨_, by rw [hF.out]; rfl, by rw [HRM.out, hF.out]; exact ⟨rfl, .inl ⟨rfl, rfl⟩⟩, hB2⟩
set_option maxRecDepth 100000 in
set_option maxHeartbeats 3200000 in
theorem spRestBehind_c (xs : List Mv) (v : Value) (m : Mv) (w : World) (hx : RdM w v xs) (hz : ∀ m ∈ xs, m.1.size ≤ 9223372036854775807 ∧ m.2.size ≤ 9223372036854775807) (hn' : xs.length ≤ 1048576) :
    Calls Try.prog 39 #[v, .agg #[.string m.1, .string m.2]] w fun e w' => ∃ v', e = .returned (.tuple #[v', .bool (restB xs m)]) ∧ w'.ownsRow w.heap.size 33 2 v' (restM xs m).length (mcells (restM xs m)) ∧ Below w.heap.size w w' := by
  have HX := Lib.hid (fun W (hW : Below w.heap.size w W) => spMovesValid_c xs v W (hx.below hW) hz hn')
  have HRM : Hid (restB xs m = false → restM xs m = []) := fun h => by unfold restM; rw [h]; rfl
  have HRB : Hid (restB xs m = (mvalid xs && (idxI xs m).isSome && freeB xs m)) := rfl
  have HHK := Lib.hid (hasK_iff xs m)
  have HFA : Hid (MV xs → (idxI xs m).isSome = true → ∃ i, i < xs.length ∧ outK xs m xs.length = xs.eraseIdx i ∧ restB xs m = (!(decide (m.1 = m.2)) && !readB (xs.eraseIdx i) m.1) ∧ (restB xs m = true → restM xs m = if isP m.2 = true then instM m.2 m.1 (xs.eraseIdx i) else xs.eraseIdx i)) := fun h hs => by
    rcases idxZ_lt xs m with ⟨_, h2, _⟩ | ⟨i, hi, _, h2, h3⟩
    · rw [h2] at hs; cases hs
    · exact ⟨i, hi, rest_facts h hi h3 h2⟩
  have HRR := Lib.hid (fun ys u a W h => l5Read_c ys u a W h)
  have HIN := Lib.hid (fun ys u a c W h hl => l5Instead_c ys u a c W h hl)
  have HEQ := fun (a b : ByteArray) W => eq_mv a b m.1 m.2 W
  obtain ⟨A, cap, rfl, hn, hc, hcell⟩ := hx.open
  have hA0 := At.new w 33 #[.string m.1, .string m.2]
  have hB0 : Below w.heap.size w ((w.alloc (.cells #[.string m.1, .string m.2] 33)).alloc (.cells #[] 33)) := ((Below.refl _ _).alloc (Nat.le_refl _) _).alloc (by simp) _
  have hE0 := World.ownsRow_lit (e := 33) (base := w.heap.size + 1) (size := 2) (w.alloc (.cells #[.string m.1, .string m.2] 33)) #[] 0 (by simp) (Nat.zero_le _) rfl
  rw [World.size_alloc] at hE0
  have hA1 := hA0.alloc (.cells #[] 33)
  clear hx hz hA0
  go_enter Try.func39, Try.ntmps39
  go_wp2
  go_loopw [6, 7, 9, 13] (fun o t _ i wr => ∃ (k : Nat), k ≤ xs.length ∧ i = .int .i64 k ∧ t = .bool (hasK xs m k) ∧ wr.ownsRow (w.heap.size + 1) 33 2 o (outK xs m k).length (mcells (outK xs m k)) ∧ At wr w.heap.size 33 #[.string m.1, .string m.2] ∧ Below w.heap.size w wr) (fun _ _ _ i _ => xs.length - (intOf i).toNat)
  case atStart => exact ⟨0, by omega, rfl, rfl, hE0, hA1, hB0⟩
  case round =>
    obtain ⟨k, hk, rfl, rfl, ho, hA, hb⟩ := hrel
    have hbs := hb.size
    have hlA := hA.lt
    clear hE0 hA1 hB0
    by_cases hlt : k < xs.length
    · obtain ⟨b, off, rfl, hbl, hc1, hc2⟩ := hcell k hlt
      have hd1 := (hb.cell (p := ⟨b, off + k * 2, none⟩) hbl).trans hc1
      have hd2 := (hb.cell (p := ⟨b, off + k * 2 + 1, none⟩) hbl).trans hc2
      have hst := outK_succ xs m k hlt
      have hsh := hasK_succ xs m k hlt
      have hle := outK_le xs m k
      rw [show xs[k] = (xs[k].1, xs[k].2) from rfl] at hst
      have hE := HEQ xs[k].1 xs[k].2
      clear hc1 hc2 hcell
      have m1 : wr.cell? ⟨w.heap.size, 0, none⟩ = some (.string m.1) := hA.cell 0
      have m2 : wr.cell? ⟨w.heap.size, 1, none⟩ = some (.string m.2) := hA.cell 1
      generalize mvEq xs[k].1 xs[k].2 m.1 m.2 = fb at *
      generalize xs[k].1 = x1 at *
      generalize xs[k].2 = x2 at *
      generalize hasK xs m k = hk0 at *
      generalize outK xs m k = ys at *
      have HST := Lib.hid hst
      have HSH := Lib.hid hsh
      clear hst hsh HEQ
      cases fb with
      | true =>
        have hB2 := hb.alloc hbs (.cells #[.string x1, .string x2] 33)
        have ho2 := own_keep ho ((Below.refl _ _).alloc (Nat.le_refl _) (.cells #[.string x1, .string x2] 33))
        have hA2 := hA.alloc (.cells #[.string x1, .string x2] 33)
        have hs1 : outK xs m (k + 1) = ys := HST.out
        have hs2 : hasK xs m (k + 1) = true := by rw [HSH.out, Bool.or_true]
        rw [← hs1] at ho2
        have HS2 := Lib.hid hs2
        clear hs1 hs2 ho hA hb
        go_wp2
        go_roundw
        case rel => exact ⟨k + 1, by omega, by go_num, by rw [HS2.out], ho2, hA2, hB2⟩
        case measure => simp [intOf]; omega
      | false =>
        have hs1 : outK xs m (k + 1) = ys ++ [(x1, x2)] := HST.out
        have hs2 : hasK xs m (k + 1) = hk0 := by rw [HSH.out, Bool.or_false]
        have HS2 := Lib.hid hs2
        have HS1 := Lib.hid hs1
        have hnw := two_new (wr.alloc (.cells #[.string x1, .string x2] 33)) (.string x1) (.string x2) 33
        rw [World.size_alloc] at hnw
        clear hs1 hs2
        go_wp2_with (at_builtin; refine held ?_)
        unfold Held
        refine app_mv rfl (.tmp 20) (.tmp 22) rfl (w.heap.size + 1) u6 ys (x1, x2) ⟨wr.heap.size + 1, 0, none⟩ 1 (by rfl) (by rfl) (own_keep (own_keep ho ((Below.refl _ _).alloc (Nat.le_refl _) _)) ((Below.refl _ _).alloc (Nat.le_refl _) _)) hnw (by omega) (by simp; omega) ?_
        intro v' w3 hown3 hgrow3
        have hge := own_block_ge ho
        have hbx : Below w.heap.size w ((wr.alloc (.cells #[.string x1, .string x2] 33)).alloc (.cells #[.string x1, .string x2] 33)) := by (repeat' (first | (with_reducible exact Below.refl _ _) | (with_reducible assumption) | (with_reducible refine Below.alloc ?_ ?_ _) | (with_reducible refine Below.drew ?_) | (with_reducible refine Below.setCell ?_ ?_ _) | (with_reducible exact Nat.le_refl _) | omega | ((repeat (first | rewrite [World.size_alloc] | rewrite [World.size_setCell] | rewrite [World.size_drew])); omega) | (simp; omega) | (simp; done)))
        have hb4 := hbx.trans (below_grown hgrow3 (B := w.heap.size) (by simp; omega) (fun g e => by have := hge g e; omega))
        have hA4 : At w3 w.heap.size 33 #[.string m.1, .string m.2] := ((hA.alloc (.cells #[.string x1, .string x2] 33)).alloc (.cells #[.string x1, .string x2] 33)).grown hgrow3 (fun e => by have := hge _ e.symm; omega)
        rw [← HS1.out] at hown3
        clear hnw hgrow3 hge hbx ho hA hb m1 m2 hd1 hd2 hE
        go_wp2
        go_roundw
        case rel => exact ⟨k + 1, by omega, by go_num, by rw [HS2.out], hown3, hA4, hb4⟩
        case measure => simp [intOf]; omega
    · have hk' : k = xs.length := by omega
      subst hk'
      rw [HHK.out]
      have hmv := HX.out _ hb
      have m1 : wr.cell? ⟨w.heap.size, 0, none⟩ = some (.string m.1) := hA.cell 0
      have m2 : wr.cell? ⟨w.heap.size, 1, none⟩ = some (.string m.2) := hA.cell 1
      have hle := outK_le xs m xs.length
      clear hcell HEQ
      rcases Bool.eq_false_or_eq_true (mvalid xs) with hm | hm
      · rcases Bool.eq_false_or_eq_true (idxI xs m).isSome with hi | hi
        · obtain ⟨i, hil, e1, e2, e3⟩ := HFA.out (by simpa [mvalid] using hm) hi
          have hle2 : (xs.eraseIdx i).length ≤ 1048575 := by rw [List.length_eraseIdx_of_lt hil]; omega
          rw [e1] at ho
          rw [hm] at hmv
          rw [hi]
          have E2 := Lib.hid e2
          have E3 := Lib.hid e3
          clear e1 e2 e3 hle
          generalize xs.eraseIdx i = er at *
          go_wp2_with (go_at_call 73; refine hmv.mono ?_; rintro e w2 ⟨rfl, hb2⟩; refine held ?_)
          unfold Held
          have hB2 := hb.trans (hb2.mono hbs)
          have hs2 := hB2.size
          have ho2 := own_keep ho hb2
          have hA2 := hA.keep hb2
          have k1 : w2.cell? ⟨w.heap.size, 0, none⟩ = some (.string m.1) := hA2.cell 0
          have k2 : w2.cell? ⟨w.heap.size, 1, none⟩ = some (.string m.2) := hA2.cell 1
          have hrd2 : RdM w2 u6 er := Rd.of_own ho2
          have hrr := HRR.out er u6 m.1 w2 hrd2
          clear hb2 hA m1 m2 hmv ho hb
          rcases Bool.eq_false_or_eq_true (m.1.toList == m.2.toList) with he | he
          · have he' := he
            rw [beq_str] at he'
            have hF : Hid (restB xs m = false) := by show _ = _; rw [E2.out, he']; rfl
            have hE := World.ownsRow_lit (e := 33) (base := w.heap.size) (size := 2) w2 #[] 0 hs2 (Nat.zero_le _) rfl
            have hB3 := hB2.alloc hs2 (.cells #[] 33)
            clear he' hrr hrd2 ho2 hA2
            go_wp2
            go_ret2
            exact ⟨_, by rw [hF.out]; rfl, by rw [HRM.out hF.out]; exact hE, hB3⟩
          · have he' := he
            rw [beq_str] at he'
            have hR : Hid (restB xs m = !readB er m.1) := by show _ = _; rw [E2.out, he']; rfl
            clear he'
            rcases Bool.eq_false_or_eq_true (readB er m.1) with hr | hr
            · have hF : Hid (restB xs m = false) := by show _ = _; rw [hR.out, hr]; rfl
              rw [hr] at hrr
              clear hrd2 ho2
              go_wp2_with (go_at_call 94; refine hrr.mono ?_; rintro e w3 ⟨rfl, hb3⟩; refine held ?_)
              unfold Held
              have hB3 := hB2.trans (hb3.mono hs2)
              have hs3 := hB3.size
              have hE := World.ownsRow_lit (e := 33) (base := w.heap.size) (size := 2) w3 #[] 0 hs3 (Nat.zero_le _) rfl
              have hB4 := hB3.alloc hs3 (.cells #[] 33)
              clear hb3 hrr hA2 k1 k2
              go_wp2
              go_ret2
              exact ⟨_, by rw [hF.out]; rfl, by rw [HRM.out hF.out]; exact hE, hB4⟩
            · have hT : Hid (restB xs m = true) := by show _ = _; rw [hR.out, hr]; rfl
              have hRL := Lib.hid (E3.out hT.out)
              rw [hr] at hrr
              go_wp2_with (go_at_call 94; refine hrr.mono ?_; rintro e w3 ⟨rfl, hb3⟩; refine held ?_)
              unfold Held
              have hB3 := hB2.trans (hb3.mono hs2)
              have hs3 := hB3.size
              have ho3 := own_keep ho2 hb3
              have hA3 := hA2.keep hb3
              have l1 : w3.cell? ⟨w.heap.size, 0, none⟩ = some (.string m.1) := hA3.cell 0
              have l2 : w3.cell? ⟨w.heap.size, 1, none⟩ = some (.string m.2) := hA3.cell 1
              have hrd3 : RdM w3 u6 er := Rd.of_own ho3
              have hin := HIN.out er u6 m.2 m.1 w3 hrd3 hle2
              clear hb3 hrr hA2 k1 k2 ho2 hrd2
              rcases Bool.eq_false_or_eq_true (isP m.2) with hp | hp
              · have hq := hRL.out
                rw [if_pos hp] at hq
                rw [← hq] at hin
                clear hq ho3
                go_wp2_with (first | (go_at_call 76; refine (l1Place_c _ _).mono ?_; rintro e w' ⟨rfl, rfl⟩) | (go_at_call 95; refine hin.mono ?_; rintro e w4 ⟨v4, rfl, ho4, hb4⟩; refine held ?_))
                unfold Held
                have hB4 := hB3.trans (hb4.mono hs3)
                have ho5 := own_more ho4 hs3
                clear ho4 hb4 hin hA3 l1 l2 hrd3
                go_wp2
                go_ret2
                exact ⟨_, by rw [hT.out]; rfl, ho5, hB4⟩
              · have hq := hRL.out
                rw [if_neg (by rw [hp]; decide)] at hq
                rw [← hq] at ho3
                have ho5 := own_more ho3 (show w.heap.size ≤ w.heap.size + 1 by omega)
                clear hq ho3 hin hA3 hrd3
                go_wp2_with (go_at_call 76; refine (l1Place_c _ _).mono ?_; rintro e w' ⟨rfl, rfl⟩)
                go_ret2
                exact ⟨_, by rw [hT.out]; rfl, ho5, hB3⟩
        · have hF : Hid (restB xs m = false) := by show _ = _; rw [HRB.out, hi]; simp
          rw [hm] at hmv
          rw [hi]
          go_wp2_with (go_at_call 73; refine hmv.mono ?_; rintro e w2 ⟨rfl, hb2⟩; refine held ?_)
          unfold Held
          have hB2 := hb.trans (hb2.mono hbs)
          have hs2 := hB2.size
          have hE := World.ownsRow_lit (e := 33) (base := w.heap.size) (size := 2) w2 #[] 0 hs2 (Nat.zero_le _) rfl
          have hB3 := hB2.alloc hs2 (.cells #[] 33)
          clear hb2 hA m1 m2 hmv ho hb
          go_wp2
          go_ret2
          exact ⟨_, by rw [hF.out]; rfl, by rw [HRM.out hF.out]; exact hE, hB3⟩
      · have hF : Hid (restB xs m = false) := by show _ = _; rw [HRB.out, hm]; rfl
        rw [hm] at hmv
        generalize (idxI xs m).isSome = his at *
        go_wp2_with (go_at_call 73; refine hmv.mono ?_; rintro e w2 ⟨rfl, hb2⟩; refine held ?_)
        unfold Held
        have hB2 := hb.trans (hb2.mono hbs)
        have hs2 := hB2.size
        have hE := World.ownsRow_lit (e := 33) (base := w.heap.size) (size := 2) w2 #[] 0 hs2 (Nat.zero_le _) rfl
        have hB3 := hB2.alloc hs2 (.cells #[] 33)
        clear hb2 hA m1 m2 hmv ho hb
        go_wp2
        go_ret2
        exact ⟨_, by rw [hF.out]; rfl, by rw [HRM.out hF.out]; exact hE, hB3⟩
end Go.Proofs.Ytbgchjjaaelkbaa
