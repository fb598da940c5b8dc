import Derived.Test.YtogkodjlbdlgjaaBusyP
import Derived.Test.YtogkodjlbdlgjaaComp
import Derived.Test.YtogkodjlbdlgjaaTab
import Derived.Test.YtogkodjlbdlgjaaTail
import Derived.Test.YtogkodjlbdlgjaaRow
import Derived.Test.YtogkodjlbdlgjaaAhd
import Derived.Test.YtogkodjlbdlgjaaIm2
import Derived.Test.YtogkodjlbdlgjaaHar
import Derived.Laws.CopyOwn
import Derived.Test.YtogkodjlbdlgjaaColl
import Derived.Stop.RegionWithIn
import Derived.Test.YtogkodjlbdlgjaaIm3
import Derived.Test.YtogkodjlbdlgjaaM2
import Derived.BigQuiet
import Derived.ChangeAlike
import Derived.RegionTactic
import Derived.Outline
import Derived.Laws.EntriesVeiled
import Derived.Test.YtogkodjlbdlgjaaNames
import Derived.Test.YtogkodjlbdlgjaaSpS2
import Derived.Test.YtogkodjlbdlgjaaNamesIn
import Derived.Test.YtogkodjlbdlgjaaSource
import Derived.Test.YtogkodjlbdlgjaaApp
import Derived.Test.YtogkodjlbdlgjaaHold
import Derived.ChangeKeysEq
import Derived.Test.YtogkodjlbdlgjaaSlM
import Derived.Deep.RegionLaw
namespace Go.Proofs.Ytogkodjlbdlgjaa
open Go.RowKit Go.PM

set_option maxRecDepth 100000 in
set_option maxHeartbeats 1000000 in
theorem l1Busy_c (xs : List Mv) (v : Value) (w : World) (hx : RdM w v xs) :
    Calls Try.prog 133 #[v] w fun e w' => ∃ v', e = .returned v' ∧ w'.ownsRow w.heap.size 65 2 v' (busyF xs 9).length (mcells (busyF xs 9)) ∧ Below w.heap.size w w' := by
  have HN : Hid (∀ q, q < 9 → (ByteArray.mk #[97, 98, 99, 100, 101, 102, 65, 66, 67]).extract q (q+1) = nm q) := by
    show ∀ q, _
    intro q hq
    match q, hq with
    | 0, _ | 1, _ | 2, _ | 3, _ | 4, _ | 5, _ | 6, _ | 7, _ | 8, _ => decide +kernel
  have HS := Lib.hid (fun W (hW : RdM W v xs) (p : Nat) => l1Source_c xs v (nm p) W hW)
  have HX := Lib.hid (fun W (hW : Below w.heap.size w W) => hx.below hW)
  have hE := World.ownsRow_lit (e := 65) (base := w.heap.size) (size := 2) w #[] 0 (Nat.le_refl _) (Nat.zero_le _) rfl
  go_enter Try.func133, Try.ntmps133
  go_wp2
  go_loopw [3, 8] (fun o i wr => ∃ (k : Nat), k ≤ 9 ∧ i = .int .i64 k ∧ wr.ownsRow w.heap.size 65 2 o (busyF xs k).length (mcells (busyF xs k)) ∧ Below w.heap.size w wr) (fun _ i _ => 9 - (intOf i).toNat)
  case atStart => exact ⟨0, by omega, rfl, hE, by (repeat' (first | (with_reducible exact Below.refl _ _) | (with_reducible assumption) | (with_reducible refine Below.alloc ?_ ?_ _) | (with_reducible refine Below.drew ?_) | (with_reducible refine Below.setCell ?_ ?_ _) | (with_reducible exact Nat.le_refl _) | omega | ((repeat (first | rewrite [World.size_alloc] | rewrite [World.size_setCell] | rewrite [World.size_drew])); omega) | (simp; omega) | (simp; done)))⟩
  case round =>
    obtain ⟨k, hk, rfl, ho, hb⟩ := hrel
    have hbs := hb.size
    by_cases hlt : k < 9
    · have hex := HN.out k hlt
      have hxr := HX.out wr hb
      have HY := Lib.hid (busyF_yes xs k)
      have HZ := Lib.hid (busyF_no xs k)
      have HH := Lib.hid (show busyH xs k = decide (srcM xs (nm k) ≠ nm k) from rfl)
      have hle := busyF_len xs k
      have hcall := HS.out wr hxr k
      have HC := Lib.hid hcall
      clear hcall
      generalize srcM xs (nm k) = sk at *
      generalize nm k = q at *
      go_wp2_with fail
      refine HC.out.mono ?_
      rintro e w2 ⟨rfl, hb2⟩
      have hb2s := hb2.size
      have ho2 := own_keep ho hb2
      have hbw := hb.trans (hb2.mono hbs)
      have hbws := hbw.size
      have hnw := two_new w2 (.string q) (.string sk) 65
      go_wp2_with (at_builtin; refine app_mv rfl (.tmp 21) (.tmp 25) rfl w.heap.size u3 (busyF xs k) (q, sk) ⟨w2.heap.size, 0, none⟩ 1 (by rfl) (by rfl) ?hown ?hnew ?hlen ?hbase ?_; rotate_left 4; intro v' w3 hown3 hgrow3)
      case hown => exact own_keep ho2 ((Below.refl _ _).alloc (Nat.le_refl _) _)
      try case hnew => exact hnw
      case hlen => omega
      case hbase => simp; omega
      · have h : (!(sk.toList == q.toList)) = true := by assumption
        rw [bne_str] at h
        have hb3 := below_grown hgrow3 (B := w.heap.size) (by simp; omega) (own_block_ge ho)
        go_roundw
        case rel =>
          refine ⟨k + 1, by omega, by go_num, ?_, ?_⟩
          · rw [HY.out (by rw [HH.out]; exact h)]; exact hown3
          · exact Below.trans (by (repeat' (first | (with_reducible exact Below.refl _ _) | (with_reducible assumption) | (with_reducible refine Below.alloc ?_ ?_ _) | (with_reducible refine Below.drew ?_) | (with_reducible refine Below.setCell ?_ ?_ _) | (with_reducible exact Nat.le_refl _) | omega | ((repeat (first | rewrite [World.size_alloc] | rewrite [World.size_setCell] | rewrite [World.size_drew])); omega) | (simp; omega) | (simp; done)))) hb3
        case measure => simp [intOf]; omega
      · have h : (!(sk.toList == q.toList)) = false := by assumption
        rw [bne_str] at h
        go_roundw
        case rel =>
          refine ⟨k + 1, by omega, by go_num, ?_, by (repeat' (first | (with_reducible exact Below.refl _ _) | (with_reducible assumption) | (with_reducible refine Below.alloc ?_ ?_ _) | (with_reducible refine Below.drew ?_) | (with_reducible refine Below.setCell ?_ ?_ _) | (with_reducible exact Nat.le_refl _) | omega | ((repeat (first | rewrite [World.size_alloc] | rewrite [World.size_setCell] | rewrite [World.size_drew])); omega) | (simp; omega) | (simp; done)))⟩
          rw [HZ.out (by rw [HH.out]; exact h)]; exact ho2
        case measure => simp [intOf]; omega
    · have hk9 : k = 9 := by omega
      subst hk9
      go_wp2
      go_ret
      exact ⟨_, rfl, ho, hb⟩

def countI (xs : List Mv) : Int := if mvalid xs then ((busyF xs 9).length : Int) else -1
end Go.Proofs.Ytogkodjlbdlgjaa
namespace Go.PM
open Go.RowKit
def leafH (f : Nat → ByteArray) (p : Nat) : Bool := decide (srcT f p ≠ nm p) && decide (namesW (rdH f (nm p)) = emp)
def leafM (xs : List Mv) (m : Mv) : Bool := decide (namesW (rsH xs m.1) = emp)
def lvB (xs : List Mv) (ms : List Mv) : ByteArray := ⟨((ms.filter (leafM xs)).flatMap fun m => m.1.data.toList).toArray⟩
theorem lvB_yes (xs ms : List Mv) (m : Mv) (h : leafM xs m = true) : lvB xs (ms ++ [m]) = lvB xs ms ++ m.1 := by
  apply ByteArray.ext
  rw [ByteArray.data_append]
  simp [lvB, h]
theorem lvB_no (xs ms : List Mv) (m : Mv) (h : leafM xs m = false) : lvB xs (ms ++ [m]) = lvB xs ms := by
  simp [lvB, h]
def leavesB (xs : List Mv) : ByteArray := namesW (leafH (tabOf xs))
theorem lvB_all {xs : List Mv} (h : MV xs) : lvB xs (busyF xs 9) = leavesB xs := by
  unfold lvB leavesB namesW namesL busyF
  rw [List.filter_map, List.flatMap_map, List.filter_filter]
  have e1 : ((List.range 9).filter fun p => (leafM xs ∘ fun p => (nm p, srcM xs (nm p))) p && busyH xs p) = (List.range 9).filter (leafH (tabOf xs)) := by
    refine List.filter_congr fun p hp => ?_
    have hp9 : p < 9 := by simpa using hp
    show (leafM xs (nm p, srcM xs (nm p)) && busyH xs p) = leafH (tabOf xs) p
    unfold leafM leafH busyH
    rw [rsH_rdH h, srcM_nm h hp9, Bool.and_comm]
  rw [e1]
  have e2 : ∀ l : List Nat, (l.flatMap fun a => (nm a, srcM xs (nm a)).1.data.toList) = l.map (placesL.getD · 0) := by
    intro l
    induction l with
    | nil => rfl
    | cons a l ih => rw [List.flatMap_cons, ih]; rfl
  rw [e2]
theorem emp_iff (s : ByteArray) : s.toList.isEmpty = decide (s = emp) := by
  rw [ByteArray.toList_eq]
  by_cases h : s = emp
  · subst h; simp
  · cases hl : s.data.toList with
    | nil => exact absurd (Go.WideShapes.bytes_inj (by rw [hl])) h
    | cons a l => simp [h]
theorem busyF_one (xs : List Mv) (k : Nat) (hk : k < (busyF xs 9).length) : (busyF xs 9)[k].1.size = 1 := by
  have := List.getElem_mem hk
  unfold busyF at this
  obtain ⟨p, _, e⟩ := List.mem_map.1 this
  have : (busyF xs 9)[k].1 = nm p := by
    have : (busyF xs 9)[k] = (nm p, srcM xs (nm p)) := e.symm
    rw [this]
  rw [this]; rfl
end Go.PM
namespace Go.Proofs.Ytogkodjlbdlgjaa
open Go.RowKit Go.PM

end Go.Proofs.Ytogkodjlbdlgjaa
namespace Go.PM
open Go.RowKit
theorem namesW_emp {h : Nat → Bool} : namesW h = emp ↔ ∀ p, p < 9 → h p = false := by
  have e : namesW h = emp ↔ (List.range 9).filter h = [] := by
    constructor
    · intro e
      have := congrArg (fun s => s.data.toList.length) e
      simp only [namesW, namesL, List.length_map] at this
      exact List.length_eq_zero_iff.1 this
    · intro e
      rw [namesW, namesL, e]; rfl
  rw [e, List.filter_eq_nil_iff]
  constructor
  · intro g p hp; simpa using g p (by simpa using hp)
  · intro g p hp; simpa using g p (by simpa using hp)
theorem namesW_one {p0 : Nat} (h0 : p0 < 9) : namesW (fun p => decide (p = p0)) = nm p0 := by
  match p0, h0 with
  | 0, _ | 1, _ | 2, _ | 3, _ | 4, _ | 5, _ | 6, _ | 7, _ | 8, _ => decide +kernel
/-- each place is the source of one -/
def Exch (S : Nat → ByteArray) : Prop := ∀ q, q < 9 → ∃ p, p < 9 ∧ S p = nm q
theorem leaf_exch (f : Nat → ByteArray) : namesW (leafH f) = emp ↔ Exch (srcT f) := by
  rw [namesW_emp]
  constructor
  · intro h q hq
    have h1 := h q hq
    unfold leafH at h1
    by_cases h2 : srcT f q = nm q
    · exact ⟨q, hq, h2⟩
    · have h3 : ¬ namesW (rdH f (nm q)) = emp := by simpa [h2] using h1
      rw [namesW_emp] at h3
      obtain ⟨p, h4⟩ := Classical.not_forall.1 h3
      obtain ⟨hp, h5⟩ := Classical.not_imp.1 h4
      have h6 : rdH f (nm q) p = true := by simpa using h5
      unfold rdH at h6
      rw [Bool.and_eq_true] at h6
      exact ⟨p, hp, by simpa using h6.2⟩
  · intro h q hq
    obtain ⟨p, hp, e⟩ := h q hq
    unfold leafH
    by_cases h2 : srcT f q = nm q
    · simp [h2]
    · have hne : nm p ≠ nm q := fun e2 => by
        have := nm_inj hp hq e2
        subst this; exact h2 e
      have : namesW (rdH f (nm q)) ≠ emp := fun h3 => by
        have := namesW_emp.1 h3 p hp
        unfold rdH at this
        simp [hne, e] at this
      simp [this]
theorem Exch.congr {S T : Nat → ByteArray} (h : ∀ p, p < 9 → S p = T p) (e : Exch S) : Exch T := fun q hq => by
  obtain ⟨p, hp, e1⟩ := e q hq
  exact ⟨p, hp, (h p hp).symm.trans e1⟩
theorem exch_drop {S : Nat → ByteArray} {p' : Nat} (hp' : p' < 9) (h : ∀ q, q < 9 → ∃ p, p < 9 ∧ p ≠ p' ∧ S p = nm q) : False := by
  have n1 : ((List.range 9).map nm).Nodup := by decide +kernel
  have h1 := nodup_le ((List.range 9).map nm) (((List.range 9).erase p').map S) n1 (fun a ha => by
    obtain ⟨q, hq, rfl⟩ := List.mem_map.1 ha
    obtain ⟨p, hp, hne, e⟩ := h q (by simpa using hq)
    exact List.mem_map.2 ⟨p, (List.mem_erase_of_ne hne).2 (by simpa using hp), e⟩)
  have h2 := List.length_erase_of_mem (show p' ∈ List.range 9 by simpa using hp')
  simp only [List.length_map, List.length_range] at h1 h2
  omega
theorem Exch.inj {S : Nat → ByteArray} (h : Exch S) {p p' : Nat} (hp : p < 9) (hp' : p' < 9) (e : S p = S p') : p = p' := by
  rcases Nat.decEq p p' with hne | he
  · exfalso
    refine exch_drop (S := S) hp' fun q hq => ?_
    obtain ⟨r, hr, e1⟩ := h q hq
    by_cases h1 : r = p'
    · subst h1; exact ⟨p, hp, hne, e.trans e1⟩
    · exact ⟨r, hr, h1, e1⟩
  · exact he
theorem Exch.place {S : Nat → ByteArray} (h : Exch S) {p : Nat} (hp : p < 9) : isP (S p) = true := by
  rcases Bool.eq_false_or_eq_true (isP (S p)) with h1 | h1
  · exact h1
  · exfalso
    refine exch_drop (S := S) hp fun q hq => ?_
    obtain ⟨r, hr, e1⟩ := h q hq
    refine ⟨r, hr, fun e => ?_, e1⟩
    subst e
    rw [e1, isP_nm hq] at h1
    cases h1
/-- the place that has q as its source -/
def invI (S : Nat → ByteArray) (q : Nat) : Nat := ((List.range 9).find? fun p => decide (S p = nm q)).getD 0
def invF (S : Nat → ByteArray) (q : Nat) : ByteArray := nm (invI S q)
theorem Exch.inv {S : Nat → ByteArray} (h : Exch S) {q : Nat} (hq : q < 9) : invI S q < 9 ∧ S (invI S q) = nm q := by
  obtain ⟨p, hp, e⟩ := h q hq
  unfold invI
  cases hf : (List.range 9).find? (fun p => decide (S p = nm q)) with
  | none => exact absurd (List.find?_eq_none.1 hf p (by simpa using hp)) (by simp [e])
  | some r =>
    have h1 := List.find?_some hf
    have h2 := List.mem_of_find?_eq_some hf
    exact ⟨by simpa using h2, by simpa using h1⟩
theorem Exch.inv_iff {S : Nat → ByteArray} (h : Exch S) {q p : Nat} (hq : q < 9) (hp : p < 9) : S p = nm q ↔ p = invI S q := by
  have h1 := h.inv hq
  exact ⟨fun e => h.inj hp h1.1 (e.trans h1.2.symm), fun e => by rw [e]; exact h1.2⟩
theorem invI_congr {S T : Nat → ByteArray} (h : ∀ p, p < 9 → S p = T p) (q : Nat) : invI S q = invI T q := by
  have key : ∀ l : List Nat, (∀ p ∈ l, p < 9) → l.find? (fun p => decide (S p = nm q)) = l.find? (fun p => decide (T p = nm q)) := by
    intro l
    induction l with
    | nil => intro _; rfl
    | cons a l ih =>
      intro hl
      rw [List.find?_cons, List.find?_cons, h a (hl a (by simp)), ih (fun p hp => hl p (by simp [hp]))]
  unfold invI
  rw [key _ (fun p hp => by simpa using hp)]

/-- impl's table of what gives all back, of the first k places -/
def bkF (f : Nat → ByteArray) : Nat → Nat → ByteArray
  | 0 => fun _ => emp
  | k + 1 => upd (bkF f k) (pidx (srcT f k)) (nm k)
theorem bkF_at {f : Nat → ByteArray} (h : Exch (srcT f)) : ∀ k, k ≤ 9 → ∀ p, p < k → bkF f k (pidx (srcT f p)) = nm p := by
  intro k
  induction k with
  | zero => intro _ p hp; omega
  | succ k ih =>
    intro hk p hp
    show upd (bkF f k) (pidx (srcT f k)) (nm k) (pidx (srcT f p)) = nm p
    unfold upd
    by_cases e : pidx (srcT f p) = pidx (srcT f k)
    · rw [if_pos e]
      have h1 := pidx_spec (h.place (p := p) (by omega))
      have h2 := pidx_spec (h.place (p := k) (by omega))
      have : srcT f p = srcT f k := by rw [← h1.2, ← h2.2, e]
      rw [h.inj (by omega) (by omega) this]
    · rw [if_neg e]
      rcases Nat.lt_or_ge p k with h1 | h1
      · exact ih (by omega) p h1
      · have : p = k := by omega
        subst this; exact absurd rfl e
theorem bkF_inv {f : Nat → ByteArray} (h : Exch (srcT f)) {q : Nat} (hq : q < 9) : srcT (bkF f 9) q = invF (srcT f) q := by
  have h1 := h.inv hq
  have h2 := bkF_at h 9 (Nat.le_refl _) _ h1.1
  rw [h1.2, pidx_nm hq] at h2
  show (if bkF f 9 q = emp then nm q else bkF f 9 q) = _
  rw [h2, if_neg (nm_ne _)]; rfl
/-- spec's list of readers, of the first k places -/
def unH (xs : List Mv) (q : Nat) : Bool := decide (namesW (rsH xs (nm q)) ≠ emp)
def unL (xs : List Mv) (k : Nat) : List Mv := ((List.range k).filter (unH xs)).map fun q => (nm q, namesW (rsH xs (nm q)))
theorem unL_yes (xs : List Mv) (k : Nat) (h : unH xs k = true) : unL xs (k + 1) = unL xs k ++ [(nm k, namesW (rsH xs (nm k)))] := by
  simp [unL, List.range_succ, h]
theorem unL_no (xs : List Mv) (k : Nat) (h : unH xs k = false) : unL xs (k + 1) = unL xs k := by
  simp [unL, List.range_succ, h]
theorem unL_len (xs : List Mv) (k : Nat) : (unL xs k).length ≤ k := by
  unfold unL
  rw [List.length_map]
  have := List.length_filter_le (unH xs) (List.range k)
  simpa using this
theorem rs_inv {xs : List Mv} (h : Exch fun p => srcM xs (nm p)) {q : Nat} (hq : q < 9) :
    namesW (rsH xs (nm q)) = if invI (fun p => srcM xs (nm p)) q = q then emp else invF (fun p => srcM xs (nm p)) q := by
  have h1 := h.inv hq
  have e : ∀ p, p < 9 → rsH xs (nm q) p = (decide (p ≠ q) && decide (p = invI (fun p => srcM xs (nm p)) q)) := fun p hp => by
    unfold rsH
    congr 1
    · exact decide_eq_decide.2 ⟨fun hne e => hne (by rw [e]), fun hne e => hne (nm_inj hp hq e)⟩
    · exact decide_eq_decide.2 (h.inv_iff hq hp)
  rw [namesW_congr e]
  by_cases h2 : invI (fun p => srcM xs (nm p)) q = q
  · rw [if_pos h2, h2]
    refine namesW_emp.2 fun p _ => ?_
    by_cases h3 : p = q <;> simp [h3]
  · rw [if_neg h2]
    refine (namesW_congr (g := fun p => decide (p = invI (fun p => srcM xs (nm p)) q)) fun p _ => ?_).trans (namesW_one h1.1)
    by_cases h3 : p = invI (fun p => srcM xs (nm p)) q
    · rw [h3]; simp [h2]
    · simp [h3]
theorem unL_inv {xs : List Mv} (h : Exch fun p => srcM xs (nm p)) : unL xs 9 = lsF (invF fun p => srcM xs (nm p)) 9 := by
  have e : (List.range 9).filter (unH xs) = (List.range 9).filter (lsH (invF fun p => srcM xs (nm p))) := List.filter_congr fun q hq => by
    have hq : q < 9 := by simpa using hq
    unfold unH lsH
    rw [rs_inv h hq]
    by_cases h2 : invI (fun p => srcM xs (nm p)) q = q
    · rw [if_pos h2]; unfold invF; rw [h2]; simp
    · rw [if_neg h2]
      have h3 : invF (fun p => srcM xs (nm p)) q ≠ nm q := fun e => h2 (nm_inj (h.inv hq).1 hq e)
      have h4 : invF (fun p => srcM xs (nm p)) q ≠ emp := nm_ne _
      simp [h3, h4]
  unfold unL lsF
  rw [e]
  refine List.map_congr_left fun q hq => ?_
  obtain ⟨h1, h2⟩ := List.mem_filter.1 hq
  have hq : q < 9 := by simpa using h1
  unfold lsH at h2
  have h2 : invF (fun p => srcM xs (nm p)) q ≠ nm q := by simpa using h2
  rw [rs_inv h hq, if_neg]
  intro e
  exact h2 (by unfold invF; rw [e])
/-- what the functions answer -/
def exchB (xs : List Mv) : Bool := mvalid xs && decide (leavesB xs = emp)
theorem exchB_iff {xs : List Mv} : exchB xs = true ↔ MV xs ∧ Exch (srcT (tabOf xs)) := by
  unfold exchB leavesB
  rw [Bool.and_eq_true, decide_eq_true_eq, leaf_exch]
  simp [mvalid]
theorem exchB_M {xs : List Mv} (h : exchB xs = true) : Exch fun p => srcM xs (nm p) := by
  obtain ⟨h1, h2⟩ := exchB_iff.1 h
  exact h2.congr fun p hp => srcT_M h1 hp
def undoM (xs : List Mv) : List Mv := if exchB xs then lsF (invF fun p => srcM xs (nm p)) 9 else []
theorem undoM_tab {xs : List Mv} (h : exchB xs = true) : mvT (noIdle (bkF (tabOf xs) 9)) (List.range 9) = undoM xs := by
  obtain ⟨h1, h2⟩ := exchB_iff.1 h
  rw [undoM, if_pos h, mvT_idle]
  refine lsF_congr fun q hq => ?_
  rw [bkF_inv h2 hq, invF, invF, invI_congr (fun p hp => srcT_M h1 hp)]
def lostH (xs : List Mv) (p : Nat) : Bool := decide (srcM xs (nm p) ≠ nm p) && decide (namesW (rsH xs (nm p)) = emp)
theorem lost_leaf {xs : List Mv} (h : MV xs) : namesW (lostH xs) = leavesB xs := by
  refine namesW_congr fun p hp => ?_
  unfold lostH leafH
  rw [rsH_rdH h, srcM_nm h hp]
end Go.PM
namespace Go.PM
open Go.RowKit
/-- a table of which the first k places have turned -/
def mixG (h f : Nat → ByteArray) (k : Nat) : Nat → ByteArray := fun q => if q < k then h q else f q
theorem mixG_zero (h f : Nat → ByteArray) : mixG h f 0 = f := by funext q; simp [mixG]
theorem mixG_at (h f : Nat → ByteArray) (k : Nat) : mixG h f k k = f k := by simp [mixG]
theorem mixG_src (h f : Nat → ByteArray) (k : Nat) : srcT (mixG h f k) k = srcT f k := by simp [srcT, mixG]
theorem mixG_set (h f : Nat → ByteArray) (k : Nat) (hk : k < 9) : (tabA (mixG h f k)).setIfInBounds k (.string (h k)) = tabA (mixG h f (k + 1)) := by
  have h1 := tabC_set (mixG h f k) k hk (h k)
  have e : (fun q => if q = k then h k else mixG h f k q) = mixG h f (k + 1) := by
    funext q
    by_cases hq : q = k
    · subst hq; simp [mixG]
    · by_cases h2 : q < k
      · simp [mixG, hq, h2, Nat.lt_succ_of_lt h2]
      · have : ¬ q < k + 1 := by omega
        simp [mixG, hq, h2, this]
  rw [e] at h1
  exact h1
theorem mixG_same (h f : Nat → ByteArray) (k : Nat) (e : h k = f k) : mixG h f (k + 1) = mixG h f k := by
  funext q
  by_cases hq : q = k
  · subst hq; simp [mixG, e]
  · by_cases h2 : q < k
    · simp [mixG, h2, Nat.lt_succ_of_lt h2]
    · have : ¬ q < k + 1 := by omega
      simp [mixG, h2, this]
theorem tabC_all (f : Nat → ByteArray) : (tabC f).all (·.oneCell') = true := by simp [tabC, Value.oneCell']
theorem tabX_mixG (h f : Nat → ByteArray) : tabX (mixG h f 9) = tabX h := rfl
end Go.PM
namespace Go.Proofs.Ytogkodjlbdlgjaa
open Go.RowKit Go.PM Go.Lib
attribute [local go_sem] Oper.semAt_some

end Go.Proofs.Ytogkodjlbdlgjaa
namespace Go.Proofs.Ytogkodjlbdlgjaa
open Go.RowKit Go.PM Go.Lib
attribute [local go_sem] Oper.semAt_some

set_option maxRecDepth 100000 in
set_option maxHeartbeats 4000000 in
theorem idle_c (f : Nat → ByteArray) (w : World) :
    Calls Try.prog 136 #[tabX f] w fun e w' => e = .returned (tabX (mixG (noIdle f) f 9)) ∧ Below w.heap.size w w' := by
  refine (callsIn_wide (n := 5)).1 ?_
  refine callsIn_of_wp_marks Try.func136 rfl trivial ?_ rfl
  simp only [Try.ntmps136, List.size_toArray, List.length_cons, List.length_nil, Nat.reduceAdd, Nat.reduceSub, Array.replicate_succ, Array.replicate_zero, List.push_toArray, List.append_toArray, List.nil_append, List.cons_append]
  gi_wp2
  refine range_law (F := Fence.wide) (gf := 69) (lf := #[.int .i64 9]) (lb := #[]) rfl (by decide) rfl trivial (fun args w => rfl) (encs := fun p : Nat => #[.int .i64 p]) (xs := List.range 9)
    (below_iter _ _ trivial rfl (by decide)) (fun _ => rfl)
    (fun pre W => At W w.heap.size 106 (tabA (mixG (noIdle f) f pre.length)) ∧ At W (w.heap.size + 1) 106 zA ∧ Below w.heap.size w W)
    (fun _ _ _ => False) ?_ (fun _ => ownFrom_pure _ _) ?_ (fun p => { tmps := #[tabX f, .pointer (some ⟨w.heap.size, 0, none⟩), .pointer (some ⟨w.heap.size + 1, 0, none⟩), .int .i64 p, .func (.func 69) #[.int .i64 9] #[], .int .i64 p, undef, undef, undef, undef, undef, undef, undef, undef, undef], defers := [] }) ?_ ?_ ?_ ?_
  · rintro s A A' row ⟨h1, h2, h3⟩ hg hr
    have hr' : ∀ r, row = some r → w.heap.size + 2 ≤ r := fun r e => by have := (hr r e).1; simp only [World.size_alloc] at this; omega
    refine ⟨(hg.block _ h1.lt (fun e => ?_)).trans h1, (hg.block _ h2.lt (fun e => ?_)).trans h2, h3.trans (below_grown hg h3.size (fun g e => ?_))⟩
    · have := hr' _ e.symm; omega
    · have := hr' _ e.symm; omega
    · have := hr' _ e; omega
  · refine ⟨?_, ?_, ?_⟩
    · rw [List.length_nil, mixG_zero]
      exact (At.new w _ _).alloc _
    · have := At.new (w.alloc (.cells (tabA f) 106)) 106 zA
      rwa [World.size_alloc] at this
    · exact ((Below.refl _ _).alloc (Nat.le_refl _) _).alloc (by simp [World.size_alloc]) _
  · intro l p W Kc hK
    gi_wp2
    exact hK
  · rintro l pre p W ⟨h1, h2, h3⟩ hp hsz
    obtain ⟨hl, hp9⟩ := pre_len pre p hp
    rw [hl] at h1
    have HL : Hid ((pre ++ [p]).length = p + 1) := by show _ = _; simp [hl]
    have HMS := Lib.hid (mixG_set (noIdle f) f p hp9)
    have HSM := Lib.hid (mixG_same (noIdle f) f p)
    have HNI : Hid (noIdle f p = if f p = nm p then emp else f p) := rfl
    clear hl
    have hpc : (tabA (mixG (noIdle f) f p))[p]? = some (.string (f p)) := by rw [← mixG_at (noIdle f) f p]; exact tabC_at _ p hp9
    have hnm := fun W' => name_c p hp9 W'
    generalize hgm : mixG (noIdle f) f p = g' at *
    have i0 : (0 : Int) ≤ (p : Int) := by omega
    have i1 : (p : Int) < 9 := by omega
    have kl := h1.lt
    have kf : W.drew.frozen? ⟨w.heap.size, p, none⟩ = false := h1.frozen p
    have kc : W.drew.cell? ⟨w.heap.size, p, none⟩ = some (.string (f p)) := (h1.cell p).trans hpc
    generalize nm p = q at *
    generalize f p = s at *
    rcases Bool.eq_false_or_eq_true (s.toList == q.toList) with hd | hd
    all_goals
      have hd' := hd
      rw [beq_str] at hd'
      have HD := Lib.hid hd'
      clear hd'
      gi_wp2
      refine region_quiet_inRound (F := Fence.wide) (C := fun w' => w' = W.drew) rfl (by kernel_rfl) (by kernel_rfl) (by kernel_rfl) rfl ?_
      simp only
      gi_big_quiet_step (fail)
      gi_big_quiet_step (fail)
      gi_big_quiet_step (fail)
      gi_big_quiet_step (fail)
      refine BigFrame.wpQuietIn_want (fun _ _ _ _ => trivial) rfl (fun K hK => ?_)
      gi_big_quiet_op
      refine ⟨_, callsIn_wide.2 ((hnm _).mono (fun e w' h => ⟨h.1, h.2.symm⟩)), hK _ ?_⟩
      clear hK K
      gi_big_quiet_step (fail)
      refine wpQuietIn_nil ?_
      intro w' hw'
      subst hw'
      gi_wp2
    · have hs : s = q := by have := HD.out; rwa [decide_eq_true_eq] at this
      refine ⟨(KeepsNew.drew W).from.trans ((KeepsOthers.setCell _ _ _).from _), KeepsIn.zero (by simp [World.size_setCell]), ?_, At.far (w := W.drew) h2 (by simp) _, Below.setCell (w := W.drew) h3.drew (by show w.heap.size ≤ w.heap.size; omega) _⟩
      rw [HL.out, ← HMS.out, HNI.out, if_pos hs]
      exact At.set (w := W.drew) h1 p _
    · have hs : ¬ s = q := by have := HD.out; rwa [decide_eq_false_iff_not] at this
      refine ⟨(KeepsNew.drew W).from, KeepsIn.zero (Nat.le_refl _), ?_, h2, h3.drew⟩
      rw [HL.out, HSM.out (by rw [HNI.out, if_neg hs])]
      exact h1
  · intro D W hD hI hd
    obtain ⟨h1, h2, h3⟩ := hI
    replace h1 : At W (w.heap.size) 106 (tabC (mixG (noIdle f) f 9)) := h1
    have hl1 := h1.lt
    have hl2 := h2.lt
    have hDD : w.heap.size + 2 ≤ D := by first | omega | simpa [World.size_alloc, Nat.add_assoc] using hD
    generalize hg9 : mixG (noIdle f) f 9 = g9 at *
    have HG9 := Lib.hid hg9
    clear hg9
    gi_wp2_with (first | (refine ldIn_row rfl 106 (.tmp 1) rfl (w.heap.size) 106 (tabC g9) h1 (by rfl) 9 9 Try.underlying106 (by kernel_rfl) ?_) | (refine stIn_row rfl 106 (.tmp 2) (.tmp 14) rfl rfl (w.heap.size + 1) 106 zA (tabC g9) h2 (by rfl) (by rfl) (by kernel_rfl) rfl (tabC_all _) ?_; intro W6 hA6 hg6))
    have d6 : W6.heap[D]? = some (.deferred (some [])) := (hg6.block D (Array.getElem?_eq_some_iff.1 hd).1 (by simp; omega)).trans hd
    have bel : Below w.heap.size w W6 := h3.trans (below_grown hg6 h3.size (fun g hg => by cases hg; omega))
    simp only [Act.put, List.setIfInBounds_toArray, List.set_cons_succ, List.set_cons_zero]
    have fin : LeavesInM Fence.wide 5 Try.prog Try.f136 #[tabX f, .pointer (some ⟨w.heap.size, 0, none⟩), .pointer (some ⟨w.heap.size + 1, 0, none⟩), undef, .func (.func 69) #[.int .i64 9] #[], undef, undef, undef, undef, undef, undef, undef, undef, undef, .agg (tabC g9)]
        (fun e w' => e = Ending.returned (tabX (mixG (noIdle f) f 9)) ∧ Below w.heap.size w w') [] .returning (W6.putObj D (.deferred none)) := by
      exact ⟨_, results_row1 Try.results136 _ _ (w.heap.size + 1) 106 (tabC g9) (by rfl) ((World.putObj_heap_other (by omega)).trans hA6) 9 9 Try.underlying106 (by kernel_rfl), by rw [HG9.out]; rfl, bel.trans ⟨rfl, rfl, rfl, by simp [World.putObj], fun k hk => World.putObj_heap_other (by omega)⟩⟩
    exact ⟨by simp, .inl ⟨D, _, rfl, run_takeDeferred d6, fin⟩⟩
  · intro _ _ _ _ _ _ hf
    exact hf.elim
end Go.Proofs.Ytogkodjlbdlgjaa
namespace Go.PM
open Go.RowKit
/-- an array of nine numbers -/
def cntC (f : Nat → Nat) : Array Value := #[.int .i64 (f 0 : Nat), .int .i64 (f 1 : Nat), .int .i64 (f 2 : Nat), .int .i64 (f 3 : Nat), .int .i64 (f 4 : Nat), .int .i64 (f 5 : Nat), .int .i64 (f 6 : Nat), .int .i64 (f 7 : Nat), .int .i64 (f 8 : Nat)]
theorem cntC_at (f : Nat → Nat) (p : Nat) (hp : p < 9) : (cntC f)[p]? = some (.int .i64 (f p : Nat)) := by
  match p, hp with
  | 0, _ | 1, _ | 2, _ | 3, _ | 4, _ | 5, _ | 6, _ | 7, _ | 8, _ => rfl
theorem cntC_set (f : Nat → Nat) (p : Nat) (hp : p < 9) (n : Nat) : (cntC f).setIfInBounds p (.int .i64 (n : Nat)) = cntC (fun q => if q = p then n else f q) := by
  match p, hp with
  | 0, _ | 1, _ | 2, _ | 3, _ | 4, _ | 5, _ | 6, _ | 7, _ | 8, _ => simp [cntC]
theorem cntC_congr {f g : Nat → Nat} (h : ∀ p, p < 9 → f p = g p) : cntC f = cntC g := by
  unfold cntC
  rw [h 0 (by omega), h 1 (by omega), h 2 (by omega), h 3 (by omega), h 4 (by omega), h 5 (by omega), h 6 (by omega), h 7 (by omega), h 8 (by omega)]
theorem cntC_one (f : Nat → Nat) : (cntC f).all (·.oneCell') = true := by simp [cntC, Value.oneCell']
/-- how many of the moves read each place -/
def cntF (xs : List Mv) (p : Nat) : Nat := rdN xs (nm p)
theorem rdN_snoc (xs : List Mv) (x : Mv) (a : ByteArray) : rdN (xs ++ [x]) a = rdN xs a + if x.2 = a then 1 else 0 := by
  unfold rdN
  rw [List.map_append, List.count_append, List.map_cons, List.map_nil, List.count_cons]
  simp
theorem rdN_le (xs : List Mv) (a : ByteArray) : rdN xs a ≤ xs.length := by
  unfold rdN
  have := List.count_le_length (a := a) (l := xs.map (·.2))
  simpa using this
theorem cntF_yes (xs : List Mv) (x : Mv) (h : isP x.2 = true) : cntC (fun q => if q = pidx x.2 then cntF xs (pidx x.2) + 1 else cntF xs q) = cntC (cntF (xs ++ [x])) := by
  refine cntC_congr fun p hp => ?_
  have hx := pidx_spec h
  unfold cntF
  rw [rdN_snoc]
  by_cases e : p = pidx x.2
  · subst e
    rw [if_pos rfl, if_pos hx.2.symm]
  · rw [if_neg e, if_neg (fun e2 => e (by rw [e2, pidx_nm hp]))]; rfl
theorem cntF_no (xs : List Mv) (x : Mv) (h : isP x.2 = false) : cntC (cntF xs) = cntC (cntF (xs ++ [x])) := by
  refine cntC_congr fun p hp => ?_
  unfold cntF
  rw [rdN_snoc, if_neg (fun e => by rw [e, isP_nm hp] at h; cases h)]; rfl
end Go.PM
namespace Go.Proofs.Ytogkodjlbdlgjaa
open Go.RowKit Go.PM

set_option maxRecDepth 100000 in
set_option maxHeartbeats 1600000 in
theorem countReaders_c (xs : List Mv) (v : Value) (w : World) (hx : RdM w v xs) (hn' : xs.length ≤ 1048576) :
    Calls Try.prog 156 #[v] w fun e w' => e = .returned (.agg (cntC (cntF xs))) ∧ Below w.heap.size w w' := by
  obtain ⟨A, cap, rfl, hn, hc, hcell⟩ := hx.open
  have hz : (#[.int .i64 0, .int .i64 0, .int .i64 0, .int .i64 0, .int .i64 0, .int .i64 0, .int .i64 0, .int .i64 0, .int .i64 0] : Array Value) = cntC (cntF []) := rfl
  go_enter Try.func156, Try.ntmps156
  go_wp2
  clear hz
  obtain ⟨W0, hW0⟩ : ∃ W0 : World, W0 = (w.alloc (Obj.cells (cntC (cntF [])) 167)).alloc (Obj.cells (cntC (cntF [])) 167) := ⟨_, rfl⟩
  have hB0 : Below w.heap.size w W0 := by rw [hW0]; (repeat' (first | (with_reducible exact Below.refl _ _) | (with_reducible assumption) | (with_reducible refine Below.alloc ?_ ?_ _) | (with_reducible refine Below.drew ?_) | (with_reducible refine Below.setCell ?_ ?_ _) | (with_reducible exact Nat.le_refl _) | omega | ((repeat (first | rewrite [World.size_alloc] | rewrite [World.size_setCell] | rewrite [World.size_drew])); omega) | (simp; omega) | (simp; done)))
  have hA0 : At W0 w.heap.size 167 (cntC (cntF [])) := by rw [hW0]; exact (At.new _ _ _).alloc _
  have hA1 : At W0 (w.heap.size + 1) 167 (cntC (cntF [])) := by
    rw [hW0]; have := At.new (w.alloc (Obj.cells (cntC (cntF [])) 167)) 167 (cntC (cntF []))
    rwa [World.size_alloc] at this
  rw [← hW0]
  clear hW0
  go_loopw [5, 6, 7, 10] (fun _ _ _ i wr => ∃ (k : Nat), k ≤ xs.length ∧ i = .int .i64 k ∧ Below w.heap.size w wr ∧ At wr w.heap.size 167 (cntC (cntF [])) ∧ At wr (w.heap.size + 1) 167 (cntC (cntF (xs.take k)))) (fun _ _ _ i _ => xs.length - (RowKit.intOf i).toNat)
  case atStart => exact ⟨0, by omega, rfl, hB0, hA0, by simpa using hA1⟩
  case round =>
    obtain ⟨k, hk, rfl, hb, hA2, hA4⟩ := hrel
    have hbs := hb.size
    have hlt4 := hA4.lt
    by_cases hlt : k < xs.length
    · obtain ⟨b, off, rfl, hbl, hc1, hc2⟩ := hcell k hlt
      have hd1 := (hb.cell (p := ⟨b, off + k * 2, none⟩) hbl).trans hc1
      have hd2 := (hb.cell (p := ⟨b, off + k * 2 + 1, none⟩) hbl).trans hc2
      clear hc1 hc2 hcell
      have hsn := take_snoc xs k hlt
      have hY := cntF_yes (xs.take k) xs[k]
      have hN := cntF_no (xs.take k) xs[k]
      have hle : ∀ p, cntF (xs.take k) p ≤ 1048576 := fun p => by
        have := rdN_le (xs.take k) (nm p)
        rw [List.length_take] at this
        unfold cntF; omega
      rw [← hsn] at hY hN
      clear hsn
      generalize xs[k].1 = a at *
      generalize xs[k].2 = b2 at *
      have HY := Lib.hid hY
      have HN := Lib.hid hN
      generalize hG : cntF (xs.take k) = G at *
      clear hY hN hG
      rcases Bool.eq_false_or_eq_true (isP b2) with hp | hp
      · have hp9 := (pidx_spec hp).1
        have HS := Lib.hid ((cntC_set G (pidx b2) hp9 (G (pidx b2) + 1)).trans (HY.out hp))
        have hkc : At (wr.alloc (.cells #[.string a, .string b2] 65)) (w.heap.size + 1) 167 (cntC G) := hA4.alloc _
        have c4 := (hkc.cell (pidx b2)).trans (cntC_at G _ hp9)
        have z4 := hkc.frozen (pidx b2)
        have hgl := hle (pidx b2)
        have i0 : (0 : Int) ≤ (pidx b2 : Int) := by omega
        have i1 : (pidx b2 : Int) < 9 := by omega
        have HI := Lib.hid (fun W => indexOf_yes b2 hp W)
        generalize pidx b2 = q at *
        generalize G q = gq at *
        go_wp2_with (go_at_call 131; refine (HI.out _).mono ?_; rintro e w' ⟨rfl, rfl⟩)
        go_roundw
        case rel =>
          refine ⟨k + 1, by omega, by go_num, by (repeat' (first | (with_reducible exact Below.refl _ _) | (with_reducible assumption) | (with_reducible refine Below.alloc ?_ ?_ _) | (with_reducible refine Below.drew ?_) | (with_reducible refine Below.setCell ?_ ?_ _) | (with_reducible exact Nat.le_refl _) | omega | ((repeat (first | rewrite [World.size_alloc] | rewrite [World.size_setCell] | rewrite [World.size_drew])); omega) | (simp; omega) | (simp; done))), (At.far hA2 (by simp) _).alloc _, ?_⟩
          rw [← HS.out]
          exact (hA4.set q _).alloc _
        case measure => simp [RowKit.intOf]; omega
      · go_wp2_with (go_at_call 131; refine (indexOf_no b2 hp _).mono ?_; rintro e w' ⟨rfl, rfl⟩)
        go_roundw
        case rel =>
          refine ⟨k + 1, by omega, by go_num, by (repeat' (first | (with_reducible exact Below.refl _ _) | (with_reducible assumption) | (with_reducible refine Below.alloc ?_ ?_ _) | (with_reducible refine Below.drew ?_) | (with_reducible refine Below.setCell ?_ ?_ _) | (with_reducible exact Nat.le_refl _) | omega | ((repeat (first | rewrite [World.size_alloc] | rewrite [World.size_setCell] | rewrite [World.size_drew])); omega) | (simp; omega) | (simp; done))), hA2.alloc _, ?_⟩
          rw [← HN.out hp]
          exact hA4.alloc _
        case measure => simp [RowKit.intOf]; omega
    · have hk' : k = xs.length := by omega
      rw [hk', List.take_of_length_le (Nat.le_refl _)] at hA4
      clear hk' hcell
      have hGG := Lib.hid (fun (e : Ending) (h : e = Ending.returned (.agg (cntC (cntF xs)))) => h)
      obtain ⟨G, hG⟩ : ∃ G, G = cntF xs := ⟨_, rfl⟩
      rw [← hG] at hA4
      have HG := Lib.hid hG
      clear hG hGG
      have hl2 := hA2.lt
      go_wp2_with (first | (refine ld_row rfl 167 (.tmp 3) rfl (w.heap.size + 1) 167 (cntC G) hA4 (by rfl) 9 3 Try.underlying167 (by kernel_rfl) ?_) | (refine st_row rfl 167 (.tmp 2) (.tmp 27) rfl rfl w.heap.size 167 (cntC (cntF [])) (cntC G) hA2 (by rfl) (by rfl) (by kernel_rfl) rfl (cntC_one _) ?_; intro W6 hA6 hg6))
      have bel : Below w.heap.size w W6 := hb.trans (below_grown hg6 hbs (fun g hg => by cases hg; omega))
      exact bodyPost_ret (v := .agg (cntC G)) (results_row1 Try.results156 _ _ w.heap.size 167 (cntC G) (by rfl) hA6 9 3 Try.underlying167 (by kernel_rfl)) rfl ⟨by rw [HG.out], bel⟩

/-- whether a move can be done ahead of those that are counted -/
def aheadP (xs : List Mv) (m : Mv) : Bool := decide (rdN xs m.1 = 0)
set_option maxRecDepth 100000 in
set_option maxHeartbeats 1600000 in
theorem ahead_c (xs : List Mv) (m : Mv) (hp : isP m.1 = true) (w : World) (hle : xs.length ≤ 1048576) :
    Calls Try.prog 157 #[.agg (cntC (cntF xs)), .agg #[.string m.1, .string m.2]] w fun e w' => e = .returned (.bool (freeB xs m)) ∧ Below w.heap.size w w' := by
  have hp9 := (pidx_spec hp).1
  have hf : Hid (freeB xs m = ((cntF xs (pidx m.1) : Int) == 0)) := by
    show _ = _
    unfold freeB cntF
    rw [(pidx_spec hp).2]
    rw [Bool.eq_iff_iff]; simp
  have hcn := cntC_at (cntF xs) (pidx m.1) hp9
  have hg0 : cntF xs (pidx m.1) ≤ 1048576 := by have := rdN_le xs (nm (pidx m.1)); unfold cntF; omega
  have hnew := At.new w 167 (cntC (cntF xs))
  have hnew2 := hnew.alloc (.cells #[.string m.1, .string m.2] 65)
  have c4 := (hnew2.cell (pidx m.1)).trans hcn
  have hl := hnew2.lt
  have i0 : (0 : Int) ≤ (pidx m.1 : Int) := by omega
  have i1 : (pidx m.1 : Int) < 9 := by omega
  have HY := Lib.hid (fun W => indexOf_yes m.1 hp W)
  generalize cntF xs (pidx m.1) = n0 at *
  generalize cntC (cntF xs) = G at *
  generalize pidx m.1 = q at *
  clear hcn
  go_enter Try.func157, Try.ntmps157
  go_wp2_with (go_at_call 131; refine (HY.out _).mono ?_; rintro e w' ⟨rfl, rfl⟩)
  go_ret
  exact ⟨by rw [hf.out]; rfl, by (repeat' (first | (with_reducible exact Below.refl _ _) | (with_reducible assumption) | (with_reducible refine Below.alloc ?_ ?_ _) | (with_reducible refine Below.drew ?_) | (with_reducible refine Below.setCell ?_ ?_ _) | (with_reducible exact Nat.le_refl _) | omega | ((repeat (first | rewrite [World.size_alloc] | rewrite [World.size_setCell] | rewrite [World.size_drew])); omega) | (simp; omega) | (simp; done)))⟩
end Go.Proofs.Ytogkodjlbdlgjaa
namespace Go.PM
open Go.RowKit
theorem aheadZ_at {xs : List Mv} {k : Nat} (hk : k < xs.length) (h : ∀ j (hj : j < k), freeB xs (xs[j]'(by omega)) = false) (hf : freeB xs xs[k] = true) : aheadZ xs = (k : Int) := by
  have : aheadI xs = some k := by
    unfold aheadI
    rw [List.findIdx?_eq_some_iff_getElem]
    exact ⟨hk, hf, fun j hj => by rw [h j hj]; decide⟩
  unfold aheadZ; rw [this]
theorem aheadZ_none {xs : List Mv} (h : ∀ j (hj : j < xs.length), freeB xs xs[j] = false) : aheadZ xs = -1 := by
  have : aheadI xs = none := by
    unfold aheadI
    rw [List.findIdx?_eq_none_iff]
    intro m hm
    obtain ⟨j, hj, rfl⟩ := List.getElem_of_mem hm
    exact h j hj
  unfold aheadZ; rw [this]
theorem aheadZ_lt (xs : List Mv) : aheadZ xs = -1 ∨ ∃ i : Nat, i < xs.length ∧ aheadZ xs = i ∧ aheadI xs = some i := by
  cases h : aheadI xs with
  | none => left; unfold aheadZ; rw [h]
  | some i =>
    right
    obtain ⟨hi, _⟩ := aheadI_some h
    exact ⟨i, hi, by unfold aheadZ; rw [h], rfl⟩
theorem aheadI_of_neg {xs : List Mv} (h : aheadZ xs = -1) : aheadI xs = none := by
  cases h2 : aheadI xs with
  | none => rfl
  | some i =>
    unfold aheadZ at h
    rw [h2] at h
    simp only at h
    omega
end Go.PM
namespace Go.Proofs.Ytogkodjlbdlgjaa
open Go.RowKit Go.PM

set_option maxRecDepth 100000 in
set_option maxHeartbeats 1600000 in
theorem indexFunc_c (xs : List Mv) (v : Value) (w : World) (hx : RdM w v xs) (hn' : xs.length ≤ 1048576) (hP : ∀ m ∈ xs, isP m.1 = true) :
    Calls Try.prog 155 #[v, .func (.func 157) #[.agg (cntC (cntF xs))] #[]] w fun e w' => e = .returned (.int .i64 (aheadZ xs)) ∧ Below w.heap.size w w' := by
  obtain ⟨A, cap, rfl, hn, hc, hcell⟩ := hx.open
  have HA := Lib.hid (fun m W hp => ahead_c xs m hp W hn')
  have HP := Lib.hid hP
  have HZ := Lib.hid (aheadZ_none (xs := xs))
  have HK := Lib.hid (fun k hk h => aheadZ_at (xs := xs) (k := k) hk h)
  clear hP
  generalize cntC (cntF xs) = G at *
  go_enter Try.func155, Try.ntmps155
  go_wp2
  go_loopw [5, 8] (fun _ i wr => ∃ (k : Nat), k ≤ xs.length ∧ i = .int .i64 k ∧ Below w.heap.size w wr ∧ Hid (∀ j (hj : j < k) (hj2 : j < xs.length), freeB xs xs[j] = false)) (fun _ i _ => xs.length - (RowKit.intOf i).toNat)
  case atStart => exact ⟨0, by omega, rfl, Below.refl _ _, fun j hj => by omega⟩
  case round =>
    obtain ⟨k, hk, rfl, hb, hm⟩ := hrel
    have hbs := hb.size
    by_cases hlt : k < xs.length
    · obtain ⟨b, off, rfl, hbl, hc1, hc2⟩ := hcell k hlt
      have hd1 := (hb.cell (p := ⟨b, off + k * 2, none⟩) hbl).trans hc1
      have hd2 := (hb.cell (p := ⟨b, off + k * 2 + 1, none⟩) hbl).trans hc2
      clear hc1 hc2 hcell
      have ha := HA.out xs[k] wr (HP.out _ (List.getElem_mem hlt))
      have HKK := Lib.hid (fun h => HK.out k hlt h)
      have HNX : Hid (freeB xs xs[k] = false → ∀ j (hj : j < k + 1) (hj2 : j < xs.length), freeB xs xs[j] = false) := fun h j hj hj2 => by
        by_cases e : j = k
        · subst e; exact h
        · exact hm.out j (by omega) hj2
      generalize freeB xs xs[k] = fb at *
      generalize xs[k].1 = x1 at *
      generalize xs[k].2 = x2 at *
      have HAA := Lib.hid ha
      clear ha
      cases fb with
      | true =>
        go_wp2_with (go_at_call 157; refine HAA.out.mono ?_; rintro e w3 ⟨rfl, hb3⟩)
        go_ret
        exact ⟨by rw [HKK.out (fun j hj => hm.out j hj (by omega)) (by first | trivial | rfl)]; rfl, hb.trans (hb3.mono hbs)⟩
      | false =>
        go_wp2_with (go_at_call 157; refine HAA.out.mono ?_; rintro e w3 ⟨rfl, hb3⟩)
        go_roundw
        case rel => exact ⟨k + 1, by omega, by go_num, hb.trans (hb3.mono hbs), HNX.out (by first | trivial | rfl)⟩
        case measure => simp [RowKit.intOf]; omega
    · have hz := HZ.out fun j hj => hm.out j (by omega) hj
      have HZZ := Lib.hid hz
      clear hz
      go_wp2
      go_ret
      exact ⟨by rw [HZZ.out]; rfl, hb⟩
set_option maxRecDepth 100000 in
set_option maxHeartbeats 1600000 in
theorem firstAhead_c (xs : List Mv) (v : Value) (w : World) (hx : RdM w v xs) (hn' : xs.length ≤ 1048576) (hP : ∀ m ∈ xs, isP m.1 = true) :
    Calls Try.prog 139 #[v] w fun e w' => e = .returned (.int .i64 (aheadZ xs)) ∧ Below w.heap.size w w' := by
  go_enter Try.func139, Try.ntmps139
  go_wp2_with fail
  refine (countReaders_c xs v _ hx hn').mono ?_
  rintro e w1 ⟨rfl, hb1⟩
  have hs1 := hb1.size
  have hx1 := hx.below hb1
  go_wp2_with fail
  refine (indexFunc_c xs v _ hx1 hn' hP).mono ?_
  rintro e w2 ⟨rfl, hb2⟩
  have hb := hb1.trans (hb2.mono hs1)
  clear hb2
  go_wp2
  go_ret
  exact ⟨rfl, hb⟩
end Go.Proofs.Ytogkodjlbdlgjaa
namespace Go.PM
open Go.RowKit
section
variable {P : Program}
/-- copy into a row that is known whole, elements of s cells -/
theorem run_copyN (w : World) (dT sT ty elem : TypeId) (s g o dLen dCap : Nat) (a : Addr) (sLen sCap : Nat) (cur : Array Value) (t : TypeId) (cs : List Value)
    (hu : P.underlying dT = some (.slice elem)) (hs : (P.info? elem).map (·.size) = some s)
    (hg : w.heap[g]? = some (.cells cur t (0, 0))) (hn : cs.length = Nat.min sLen dLen * s)
    (hsrc : ∀ j v, cs[j]? = some v → w.cell? (a.add j) = some v) (hfit : o + cs.length ≤ cur.size) (h1 : ∀ v ∈ cs, v.oneCell' = true) :
    (Builtin.copy_ #[dT, sT] ty #[.slice (some ⟨g, o, none⟩) dLen dCap, .slice (some a) sLen sCap]).run P w =
      .ok (goInt (Nat.min sLen dLen : Nat)) (w.setRow g (cur.toList.take o ++ cs ++ cur.toList.drop (o + cs.length)).toArray) := by
  have hl := run_loadCells_list (P := P) w a cs hsrc
  have hst := run_storeCells_at P g o t cs 0 cur w hg (by simpa using hfit) h1
  cases hq : P.info? elem with
  | none => simp [hq] at hs
  | some i =>
    have hi : i.size = s := by simpa [hq] using hs
    simp only [hn] at hl
    rw [← hn] at hl
    simp [Builtin.copy_, run_underlying hu, Builtin.lenOf, Builtin.firstCells, sizeOf, typeInfo, hq, hi, ← hn, hl, hst]
theorem run_copyN0 (w : World) (dT sT ty elem : TypeId) (s : Nat) (d a : Option Addr) (dLen dCap sLen sCap : Nat) (hu : P.underlying dT = some (.slice elem)) (hs : (P.info? elem).map (·.size) = some s) (hn : Nat.min sLen dLen = 0) :
    (Builtin.copy_ #[dT, sT] ty #[.slice d dLen dCap, .slice a sLen sCap]).run P w = .ok (goInt 0) w := by
  cases hq : P.info? elem with
  | none => simp [hq] at hs
  | some i =>
    have hl : ∀ a, (loadCells a 0).run P w = .ok #[] w := fun a => run_loadCells_list (P := P) w a [] (by simp)
    cases d <;> cases a <;> simp [Builtin.copy_, run_underlying hu, Builtin.lenOf, Builtin.firstCells, sizeOf, typeInfo, hq, hn, hl, storeCells]
theorem wpList_copyN {w : World} {ops : Array Oper} {rest : List Oper} {o : Oper} {a : Act} {Q : Exit → Act → World → Prop} (hgd : o.guard = none) (d s : Operand) (dT sT : TypeId)
    (ho : o.op = .call { callee := .builtin .copy, args := #[d, s], argTypes := #[dT, sT] }) (elem : TypeId) (sz : Nat) (hu : P.underlying dT = some (.slice elem)) (hsz : (P.info? elem).map (·.size) = some sz)
    (dp sp : Option Addr) (dLen dCap sLen sCap : Nat) (hd : a.eval d = .slice dp dLen dCap) (hs : a.eval s = .slice sp sLen sCap)
    (g off : Nat) (cur : List Value) (t : TypeId) (hg : w.heap[g]? = some (.cells cur.toArray t (0, 0))) (cs : List Value) (hn : cs.length = Nat.min sLen dLen * sz)
    (hpos : 0 < Nat.min sLen dLen → dp = some ⟨g, off, none⟩ ∧ ∃ ad, sp = some ad ∧ ∀ j v, cs[j]? = some v → w.cell? (ad.add j) = some v)
    (hfit : off + cs.length ≤ cur.length) (h1 : ∀ v ∈ cs, v.oneCell' = true) (B : Nat) (w0 : World) (hb : Below B w0 w) (hBg : B ≤ g)
    (h : ∀ w', Hid (w'.heap[g]? = some (.cells (splice cur off cs).toArray t (0, 0))) → Below B w0 w' → wpList P ops Q rest (a.put o.dst (goInt (Nat.min sLen dLen : Nat))) w') :
    wpList P ops Q (o :: rest) a w := by
  refine wpList_plain hgd fun K hK => ?_
  by_cases h0 : Nat.min sLen dLen = 0
  · obtain rfl : cs = [] := List.eq_nil_of_length_eq_zero (by rw [hn, h0, Nat.zero_mul])
    have hrun := run_copyN0 (P := P) w dT sT o.type elem sz dp sp dLen dCap sLen sCap hu hsz h0
    unfold Oper.wp
    simp [execOp, ho, resolve, invoke, builtin, hd, hs, hrun, Result.andThen]
    have := h w (show _ = _ by simpa [splice] using hg) hb
    rw [h0] at this
    exact hK _ _ this
  · obtain ⟨rfl, ad, rfl, hsrc⟩ := hpos (by omega)
    have hrun := run_copyN (P := P) w dT sT o.type elem sz g off dLen dCap ad sLen sCap cur.toArray t cs hu hsz hg hn hsrc (by simpa using hfit) h1
    unfold Oper.wp
    simp [execOp, ho, resolve, invoke, builtin, hd, hs, hrun, Result.andThen]
    have := h _ (show _ = _ by simpa [splice] using setRow_heap w g _ _ t _ hg) (below_setRow hb hBg _)
    refine hK _ _ ?_
    simpa [splice] using this
end
theorem mcells_one (xs : List Mv) : ∀ v ∈ mcells xs, v.oneCell' = true := by
  intro v hv
  unfold mcells at hv
  obtain ⟨m, _, h⟩ := List.mem_flatMap.1 hv
  simp at h
  rcases h with rfl | rfl <;> rfl
theorem own_at (w : World) (g base : Nat) (e : TypeId) (xs : List Mv) (hg : At w g e (mcells xs).toArray) (hb : base ≤ g) (hn : xs.length ≤ 1048576) :
    w.ownsRow base e 2 (.slice (some ⟨g, 0, none⟩) xs.length xs.length) xs.length (mcells xs) := by
  have hl := mcells_length xs
  have hm : maxLen = 9223372036854775807 := rfl
  refine ⟨hl, .inr ⟨g, xs.length, (mcells xs).toArray, rfl, hb, hg, Nat.le_refl _, by omega, by simp [hl], by simp [← hl]⟩⟩
end Go.PM
namespace Go.PM
open Go.RowKit
theorem mcells_take (xs : List Mv) (k : Nat) : (mcells xs).take (k * 2) = mcells (xs.take k) := by
  induction xs generalizing k with
  | nil => simp [mcells]
  | cons x xs ih =>
    cases k with
    | zero => simp [mcells]
    | succ k =>
      rw [mcells_cons, List.take_succ_cons, mcells_cons, ← ih k, show (k + 1) * 2 = k * 2 + 1 + 1 by omega]
      rfl
theorem mcells_drop (xs : List Mv) (k : Nat) : (mcells xs).drop (k * 2) = mcells (xs.drop k) := by
  induction xs generalizing k with
  | nil => simp [mcells]
  | cons x xs ih =>
    cases k with
    | zero => simp [mcells]
    | succ k =>
      rw [mcells_cons, List.drop_succ_cons, ← ih k, show (k + 1) * 2 = k * 2 + 1 + 1 by omega]
      rfl
theorem Rd.cellsFrom {w : World} {b off n cap : Nat} {xs : List Mv} (h : RdM w (.slice (some ⟨b, off, none⟩) n cap) xs) : ∀ j u, (mcells xs)[j]? = some u → w.cell? ⟨b, off + j, none⟩ = some u := by
  intro j u hu
  obtain ⟨A, cap', e, hc, hn, hl, hr⟩ := h
  have h0 : 0 < xs.length := by
    have := (List.getElem?_eq_some_iff.1 hu).1
    rw [mcells_length] at this; omega
  obtain ⟨b', off', eA, hb, hcell⟩ := hr h0
  cases e; cases eA
  exact hcell j u hu
end Go.PM
namespace Go.Proofs.Ytogkodjlbdlgjaa
open Go.RowKit Go.PM

set_option maxRecDepth 100000 in
set_option maxHeartbeats 1600000 in
theorem without_c (xs : List Mv) (v : Value) (i : Nat) (hi : i < xs.length) (w : World) (hx : RdM w v xs) (hn' : xs.length ≤ 1048576) :
    Calls Try.prog 140 #[v, .int .i64 i] w fun e w' => ∃ v', e = .returned v' ∧ w'.ownsRow w.heap.size 65 2 v' (xs.eraseIdx i).length (mcells (xs.eraseIdx i)) ∧ Below w.heap.size w w' := by
  have hx0 := hx
  obtain ⟨A, cap, rfl, hn, hc, hcell⟩ := hx.open
  obtain ⟨b, off, rfl, hbl, _, _⟩ := hcell i hi
  clear hcell
  have hsrc := Rd.cellsFrom hx0
  clear hx hx0
  obtain ⟨i0, hi0, hz0, hz1, hz2⟩ := info_parts infoMv
  have hmk := fun W : World => run_make (P := Try.prog) W 29 65 i0 _ Try.underlying29 hi0 hz0 .i64 .i64 ((xs.length - 1 : Nat) : Int) ((xs.length - 1 : Nat) : Int) (by omega) (Int.le_refl _) (by rw [hz2]; omega) (by omega)
  simp only [Int.toNat_natCast, hz1] at hmk
  have hsub : ((xs.length : Int) - 1) = ((xs.length - 1 : Nat) : Int) := by omega
  generalize xs.length - 1 = n1 at *
  obtain ⟨Z, hZ, hZl⟩ : ∃ Z : List Value, madeCells #[Value.string ⟨#[]⟩, Value.string ⟨#[]⟩] (n1 * 2) = Z.toArray ∧ Z.length = n1 * 2 := ⟨(madeCells #[Value.string ⟨#[]⟩, Value.string ⟨#[]⟩] (n1 * 2)).toList, by simp, by rw [Array.length_toList]; exact size_madeCells _ _⟩
  have hmk2 : ∀ W : World, Sem.run Try.prog (Instr.makeSlice 29 (.int .i64 (n1 : Nat)) (.int .i64 (n1 : Nat))) W = .ok (.slice (some ⟨W.heap.size, 0, none⟩) n1 n1) (W.alloc (.cells Z.toArray 65)) := fun W => by rw [hmk W]; exact congrArg (fun c => Result.ok (Value.slice (some ⟨W.heap.size, 0, none⟩) n1 n1) (W.alloc (.cells c 65))) hZ
  clear hmk hZ hz0 hz1 hz2 hi0 i0
  have hO : At (w.alloc (.cells Z.toArray 65)) w.heap.size 65 Z.toArray := At.new _ _ _
  have hB : Below w.heap.size w (w.alloc (.cells Z.toArray 65)) := (Below.refl _ _).alloc (Nat.le_refl _) _
  have hl1 : (mcells (xs.take i)).length = i * 2 := by rw [mcells_length, List.length_take]; omega
  have hl2 : (mcells (xs.drop (i + 1))).length = (n1 - i) * 2 := by rw [mcells_length, List.length_drop]; omega
  have hin : i ≤ n1 := by omega
  have hm1 : Nat.min i n1 = i := Nat.min_eq_left hin
  have s1 : ∀ j u, (mcells (xs.take i))[j]? = some u → (mcells xs)[j]? = some u := fun j u h => by
    rw [← mcells_take, List.getElem?_take] at h
    split at h
    · exact h
    · cases h
  have s2 : ∀ j u, (mcells (xs.drop (i + 1)))[j]? = some u → (mcells xs)[(i + 1) * 2 + j]? = some u := fun j u h => by
    rw [← mcells_drop, List.getElem?_drop] at h
    exact h
  have o1 := mcells_one (xs.take i)
  have o2 := mcells_one (xs.drop (i + 1))
  have hfin : ∀ X1 X2 : List Value, X1 = mcells (xs.take i) → X2 = mcells (xs.drop (i + 1)) → splice (splice Z 0 X1) (i * 2) X2 = mcells (xs.eraseIdx i) := fun X1 X2 e1 e2 => by
    have hl1' : X1.length = i * 2 := by rw [e1]; exact hl1
    have hl2' : X2.length = (n1 - i) * 2 := by rw [e2]; exact hl2
    have e3 : splice Z 0 X1 = X1 ++ Z.drop (i * 2) := by unfold splice; simp [hl1']
    rw [e3]
    unfold splice
    rw [List.take_left' hl1', List.drop_eq_nil_of_le (by rw [List.length_append, List.length_drop, hl1', hl2', hZl]; omega), List.append_nil, e1, e2, ← mcells_append, List.eraseIdx_eq_take_drop_succ]
  have hle : (xs.eraseIdx i).length = n1 := by rw [List.length_eraseIdx_of_lt hi]; omega
  obtain ⟨X1, hX1⟩ : ∃ X, X = mcells (xs.take i) := ⟨_, rfl⟩
  obtain ⟨X2, hX2⟩ : ∃ X, X = mcells (xs.drop (i + 1)) := ⟨_, rfl⟩
  have hf := Lib.hid (hfin X1 X2 hX1 hX2)
  rw [← hX1] at hl1 s1 o1
  rw [← hX2] at hl2 s2 o2
  have HX := Lib.hid (And.intro hX1 hX2)
  have HLE := Lib.hid hle
  have HS := Lib.hid hsrc
  clear hX1 hX2 hfin hle
  have hcp : ∀ (W : World), Below w.heap.size w W → ∀ (j : Nat) (u : Value), (mcells xs)[j]? = some u → W.cell? ⟨b, off + j, none⟩ = some u := fun W hW j u h => (hW.cell hbl).trans (hsrc j u h)
  have hp1 : 0 < Nat.min i n1 → (some ⟨w.heap.size, 0, none⟩ : Option Addr) = some ⟨w.heap.size, 0, none⟩ ∧ ∃ ad, (some ⟨b, off, none⟩ : Option Addr) = some ad ∧ ∀ j v, X1[j]? = some v → (w.alloc (.cells Z.toArray 65)).cell? (ad.add j) = some v :=
    fun _ => ⟨rfl, _, rfl, fun j u h => by rw [show (⟨b, off, none⟩ : Addr).add j = ⟨b, off + j, none⟩ by unfold Addr.add; split <;> simp_all]; exact hcp _ hB j u (s1 j u h)⟩
  go_enter Try.func140, Try.ntmps140
  go_wp2_with (refine wpList_copyN rfl (.tmp 10) (.tmp 13) 29 29 rfl 65 2 Try.underlying29 (by kernel_rfl) (some ⟨w.heap.size, 0, none⟩) (some ⟨b, off, none⟩) n1 n1 i cap (by rfl) (by rfl) w.heap.size 0 Z 65 hO X1 (by rw [hl1, hm1]) hp1 (by rw [hl1, hZl]; omega) o1 w.heap.size w hB (Nat.le_refl _) ?_; intro W1 hA1 hb1)
  clear hp1 hO hB
  have hin2 : (i : Int) ≤ (n1 : Int) := by omega
  have hin3 : ((i : Int) + 1) ≤ (xs.length : Int) := by omega
  refine region_tail (C := fun w' => w' = W1.drew) 7 (by kernel_rfl) (by kernel_rfl) rfl ?_
  simp only [List.take_succ_cons, List.take_zero, List.drop_succ_cons, List.drop_zero]
  go_big_quiet_step (fail)
  go_big_quiet_step (fail)
  go_big_quiet_step (fail)
  go_big_quiet_step (fail)
  go_big_quiet_step (fail)
  go_big_quiet_step (fail)
  go_big_quiet_step (fail)
  refine wpQuiet_nil ?_
  intro w' hw'
  subst hw'
  have hcopy : ∀ (W : World), Below w.heap.size w W → ∀ (j : Nat) (v : Value), X2[j]? = some v → W.cell? ((⟨b, off + (i + 1) * 2, none⟩ : Addr).add j) = some v := fun W hW j v h => by
    rw [show (⟨b, off + (i + 1) * 2, none⟩ : Addr).add j = ⟨b, off + ((i + 1) * 2 + j), none⟩ by unfold Addr.add; split <;> simp_all [Nat.add_assoc]]
    exact hcp W hW _ _ (s2 j v h)
  refine wpList_copyN rfl (.tmp 17) (.tmp 21) 29 29 rfl 65 2 Try.underlying29 (by kernel_rfl) _ _ (n1 - i) (n1 - i) (xs.length - (i + 1)) (cap - (i + 1)) (by rfl) (by rfl) w.heap.size (i * 2) (splice Z 0 X1) 65 hA1.out X2 ?_ ?_ ?_ o2 w.heap.size w hb1.drew (Nat.le_refl _) ?_
  · rw [hl2, show Nat.min (xs.length - (i + 1)) (n1 - i) = n1 - i from Nat.min_eq_right (by omega)]
  · intro h0
    rw [show Nat.min (xs.length - (i + 1)) (n1 - i) = n1 - i from Nat.min_eq_right (by omega)] at h0
    refine ⟨?_, ?_⟩
    · rw [if_neg (by omega)]
    · rw [if_neg (by omega)]
      exact ⟨_, rfl, hcopy _ hb1.drew⟩
  · rw [hl2]
    have : (splice Z 0 X1).length = Z.length := length_splice _ _ _ (by rw [hl1, hZl]; omega)
    rw [this, hZl]; omega
  · intro W2 hA2 hb2
    have hA3 := hA2.out
    rw [hf.out] at hA3
    have ho := own_at W2 w.heap.size w.heap.size 65 (xs.eraseIdx i) hA3 (Nat.le_refl _) (by rw [HLE.out]; omega)
    rw [HLE.out] at ho
    have HO := Lib.hid ho
    clear ho hA3 hA2 hcopy hcp
    generalize (if n1 = i then (some ⟨w.heap.size, 0, none⟩ : Option Addr) else some ⟨w.heap.size, i * 2, none⟩) = Q1
    generalize (if cap = i + 1 then (some ⟨b, off, none⟩ : Option Addr) else some ⟨b, off + (i + 1) * 2, none⟩) = Q2
    go_wp2
    go_ret
    exact ⟨_, rfl, by rw [HLE.out]; exact HO.out, hb2⟩
end Go.Proofs.Ytogkodjlbdlgjaa
namespace Go.PM
open Go.RowKit
/-- the first k moves are redirected -/
def redK (d : Mv) (xs : List Mv) (k : Nat) : List Mv := redM d (xs.take k) ++ xs.drop k
theorem redK_len (d : Mv) (xs : List Mv) (k : Nat) : (redK d xs k).length = xs.length := by
  unfold redK
  rw [List.length_append, redM_len, List.length_take, List.length_drop]; omega
theorem redK_zero (d : Mv) (xs : List Mv) : redK d xs 0 = xs := by
  unfold redK redM
  simp [instM]
theorem redK_full (d : Mv) (xs : List Mv) : redK d xs xs.length = redM d xs := by
  unfold redK; simp
def redB (d : Mv) (m : Mv) : Bool := decide (m.2 = d.2) && !isD d.2
theorem redM_append (d : Mv) (xs ys : List Mv) : redM d (xs ++ ys) = redM d xs ++ redM d ys := by
  unfold redM; split
  · rfl
  · simp [instM]
theorem redM_one (d m : Mv) : redM d [m] = [if redB d m = true then (m.1, d.1) else m] := by
  unfold redM redB instM
  by_cases h : isD d.2 = true
  · rw [if_pos h, h]; simp
  · rw [if_neg h]
    have : isD d.2 = false := by simpa using h
    rw [this]
    by_cases h2 : m.2 = d.2
    · simp [h2]
    · simp [h2]
theorem redK_at (d : Mv) (xs : List Mv) (k : Nat) (hk : k < xs.length) : (redK d xs k)[k]? = some xs[k] := by
  unfold redK
  rw [List.getElem?_append_right (by rw [redM_len, List.length_take]; omega), redM_len, List.length_take, List.getElem?_drop]
  rw [show k + (k - min k xs.length) = k by omega, List.getElem?_eq_getElem hk]
theorem redK_succ (d : Mv) (xs : List Mv) (k : Nat) (hk : k < xs.length) : redK d xs (k + 1) = (redK d xs k).set k (if redB d xs[k] = true then (xs[k].1, d.1) else xs[k]) := by
  have hl : (redM d (xs.take k)).length = k := by rw [redM_len, List.length_take]; omega
  unfold redK
  rw [take_snoc xs k hk, redM_append, redM_one, List.set_append_right _ _ (by omega), hl, Nat.sub_self, List.drop_eq_getElem_cons hk, List.set_cons_zero, List.append_assoc]
  rfl
theorem mcells_set2 (xs : List Mv) (k : Nat) (hk : k < xs.length) (s : ByteArray) : (mcells xs).set (k * 2 + 1) (.string s) = mcells (xs.set k (xs[k].1, s)) := by
  induction xs generalizing k with
  | nil => simp at hk
  | cons x xs ih =>
    cases k with
    | zero => simp [mcells]
    | succ k =>
      have := ih k (by simpa using hk)
      rw [mcells_cons, List.set_cons_succ, show (k + 1) * 2 = k * 2 + 1 + 1 by omega, List.set_cons_succ, this, List.set_cons_succ, mcells_cons]
      rfl
end Go.PM
namespace Go.Proofs.Ytogkodjlbdlgjaa
open Go.RowKit Go.PM

set_option maxRecDepth 100000 in
set_option maxHeartbeats 1600000 in
theorem redirected_c (xs : List Mv) (v : Value) (d : Mv) (w : World) (hx : RdM w v xs) (hn' : xs.length ≤ 1048576) :
    Calls Try.prog 141 #[v, .agg #[.string d.1, .string d.2]] w fun e w' => ∃ v', e = .returned v' ∧ w'.ownsRow w.heap.size 65 2 v' (redM d xs).length (mcells (redM d xs)) ∧ Below w.heap.size w w' := by
  have hx0 := hx
  obtain ⟨A, cap, rfl, hn, hc, hcell⟩ := hx.open
  obtain ⟨i0, hi0, hz0, hz1, hz2⟩ := info_parts infoMv
  have hmk := fun W : World => run_make (P := Try.prog) W 29 65 i0 _ Try.underlying29 hi0 hz0 .i64 .i64 ((xs.length : Nat) : Int) ((xs.length : Nat) : Int) (by omega) (Int.le_refl _) (by rw [hz2]; omega) (by omega)
  simp only [Int.toNat_natCast, hz1] at hmk
  obtain ⟨Z, hZ, hZl⟩ : ∃ Z : List Value, madeCells #[Value.string ⟨#[]⟩, Value.string ⟨#[]⟩] (xs.length * 2) = Z.toArray ∧ Z.length = xs.length * 2 := ⟨(madeCells #[Value.string ⟨#[]⟩, Value.string ⟨#[]⟩] (xs.length * 2)).toList, by simp, by rw [Array.length_toList]; exact size_madeCells _ _⟩
  have hmk2 : ∀ W : World, Sem.run Try.prog (Instr.makeSlice 29 (.int .i64 (xs.length : Nat)) (.int .i64 (xs.length : Nat))) W = .ok (.slice (some ⟨W.heap.size, 0, none⟩) xs.length xs.length) (W.alloc (.cells Z.toArray 65)) := fun W => by rw [hmk W]; exact congrArg (fun c => Result.ok (Value.slice (some ⟨W.heap.size, 0, none⟩) xs.length xs.length) (W.alloc (.cells c 65))) hZ
  clear hmk hZ hz0 hz1 hz2 hi0 i0
  obtain ⟨W0, hW0⟩ : ∃ W0 : World, W0 = (w.alloc (.cells #[.string d.1, .string d.2] 65)).alloc (.cells Z.toArray 65) := ⟨_, rfl⟩
  have hD : At W0 w.heap.size 65 #[.string d.1, .string d.2] := by rw [hW0]; exact (At.new _ _ _).alloc _
  have hO : At W0 (w.heap.size + 1) 65 Z.toArray := by
    rw [hW0]; have := At.new (w.alloc (.cells #[.string d.1, .string d.2] 65)) 65 Z.toArray
    rwa [World.size_alloc] at this
  have hB : Below w.heap.size w W0 := by rw [hW0]; (repeat' (first | (with_reducible exact Below.refl _ _) | (with_reducible assumption) | (with_reducible refine Below.alloc ?_ ?_ _) | (with_reducible refine Below.drew ?_) | (with_reducible refine Below.setCell ?_ ?_ _) | (with_reducible exact Nat.le_refl _) | omega | ((repeat (first | rewrite [World.size_alloc] | rewrite [World.size_setCell] | rewrite [World.size_drew])); omega) | (simp; omega) | (simp; done)))
  have hB1 : Below (w.heap.size + 1) W0 W0 := Below.refl _ _
  have hl1 := mcells_length xs
  have o1 := mcells_one xs
  have hsp : splice Z 0 (mcells xs) = mcells xs := by unfold splice; simp [hl1, hZl]
  obtain ⟨X1, hX1⟩ : ∃ X, X = mcells xs := ⟨_, rfl⟩
  rw [← hX1] at hsp hl1 o1
  have HX := Lib.hid hX1
  have HSP := Lib.hid hsp
  have hp1 : 0 < Nat.min xs.length xs.length → (some ⟨w.heap.size + 1, 0, none⟩ : Option Addr) = some ⟨w.heap.size + 1, 0, none⟩ ∧ ∃ ad, A = some ad ∧ ∀ j v, X1[j]? = some v → W0.cell? (ad.add j) = some v := fun h => by
    refine ⟨rfl, ?_⟩
    obtain ⟨b, off, rfl, hbl, _, _⟩ := hcell 0 (by have e : Nat.min xs.length xs.length = xs.length := Nat.min_self _; rw [e] at h; exact h)
    refine ⟨_, rfl, fun j u hj => ?_⟩
    rw [show (⟨b, off, none⟩ : Addr).add j = ⟨b, off + j, none⟩ by unfold Addr.add; split <;> simp_all]
    exact (hB.cell hbl).trans (Rd.cellsFrom hx0 j u (by rw [← hX1]; exact hj))
  have HP1 := Lib.hid hp1
  clear hX1 hp1 hcell hx hx0 hsp
  have hm1 : Nat.min xs.length xs.length = xs.length := Nat.min_self _
  have hlt0 := hD.lt
  subst hW0
  go_enter Try.func141, Try.ntmps141
  go_wp2_with (refine wpList_copyN rfl (.tmp 10) (.tmp 11) 29 29 rfl 65 2 Try.underlying29 (by kernel_rfl) (some ⟨w.heap.size + 1, 0, none⟩) A xs.length xs.length xs.length cap (by rfl) (by rfl) (w.heap.size + 1) 0 Z 65 hO X1 (by rw [hl1, hm1]) HP1.out (by rw [hl1, hZl]; omega) o1 (w.heap.size + 1) _ hB1 (Nat.le_refl _) ?_; intro W1 hA1 hb1)
  have hA2 : At W1 (w.heap.size + 1) 65 (mcells (redK d xs 0)).toArray := by
    rw [redK_zero, ← HX.out, ← HSP.out]; exact hA1.out
  have hD2 : At W1 w.heap.size 65 #[.string d.1, .string d.2] := hD.below hb1 (by omega)
  have hb2 : Below w.heap.size w W1 := hB.trans (hb1.mono (by omega))
  have HRL := Lib.hid (redK_len d xs)
  have HRS := Lib.hid (redK_succ d xs)
  have HRA := Lib.hid (redK_at d xs)
  have HRF := Lib.hid (redK_full d xs)
  have HML := Lib.hid (fun k => (mcells_length (redK d xs k)).trans (by rw [redK_len]))
  clear hO hD hB hB1 HX HSP HP1 hA1 hb1
  go_loopw [6, 15] (fun _ i wr => ∃ (k : Nat), k ≤ xs.length ∧ i = .int .i64 k ∧ Below w.heap.size w wr ∧ At wr w.heap.size 65 #[.string d.1, .string d.2] ∧ At wr (w.heap.size + 1) 65 (mcells (redK d xs k)).toArray) (fun _ i _ => xs.length - (RowKit.intOf i).toNat)
  case atStart => exact ⟨0, by omega, rfl, hb2, hD2, hA2⟩
  case round =>
    obtain ⟨k, hk, rfl, hb, hD3, hA3⟩ := hrel
    have hbs := hb.size
    clear hA2 hD2 hb2
    by_cases hlt : k < xs.length
    · have hcs := mcells_at _ _ _ (HRA.out k hlt)
      have hst := HRS.out k hlt
      have hl3 := hA3.lt
      have hl4 := hD3.lt
      have e1 : ∀ j u, (mcells (redK d xs k))[j]? = some u → wr.cell? ⟨w.heap.size + 1, j, none⟩ = some u := fun j u h => (hA3.cell j).trans (by simpa using h)
      have c1 := e1 _ _ hcs.1
      have c2 := e1 _ _ hcs.2
      have z2 := hA3.frozen (k * 2 + 1)
      have d1 : wr.cell? ⟨w.heap.size, 0, none⟩ = some (.string d.1) := hD3.cell 0
      have d2 : wr.cell? ⟨w.heap.size, 1, none⟩ = some (.string d.2) := hD3.cell 1
      have hrb : redB d xs[k] = (decide (xs[k].2 = d.2) && !isD d.2) := rfl
      have hset := mcells_set2 (redK d xs k) k (by rw [HRL.out]; exact hlt) d.1
      have hat := HRA.out k hlt
      rw [List.getElem?_eq_getElem (by rw [HRL.out]; exact hlt), Option.some.injEq] at hat
      rw [hat] at hset
      have HST := Lib.hid hst
      have HSET := Lib.hid hset
      have HAT := Lib.hid hat
      clear hst hset hat e1 hcs
      generalize redB d xs[k] = rb at *
      generalize hm : xs[k] = m at *
      clear hm
      generalize m.1 = x1 at *
      generalize m.2 = x2 at *
      have i0 : (0 : Int) ≤ (k : Int) := by omega
      have i1 : (k : Int) < (xs.length : Int) := by omega
      have E2 : Hid ((mcells (redK d xs k)).toArray[k * 2 + 1]? = some (Value.string x2)) := by show _ = _; rw [← hA3.cell]; exact c2
      have x0 : ∀ x : Ext wr.heap.size wr, x.val.cell? ⟨w.heap.size, 0, none⟩ = some (.string d.1) := fun x => (x.property.cell (p := ⟨w.heap.size, 0, none⟩) hl4).trans d1
      have x1 : ∀ x : Ext wr.heap.size wr, x.val.cell? ⟨w.heap.size, 1, none⟩ = some (.string d.2) := fun x => (x.property.cell (p := ⟨w.heap.size, 1, none⟩) hl4).trans d2
      have x2c : ∀ x : Ext wr.heap.size wr, x.val.cell? ⟨w.heap.size + 1, k * 2 + 1, none⟩ = some (.string x2) := fun x => (x.property.cell (p := ⟨w.heap.size + 1, k * 2 + 1, none⟩) hl3).trans c2
      rcases Bool.eq_false_or_eq_true (x2.toList == d.2.toList) with hd | hd
      · have HD : Hid (decide (x2 = d.2) = true) := by show _ = _; rw [← beq_str]; exact hd
        rcases Bool.eq_false_or_eq_true (isD d.2) with hg | hg
        · have hG : Hid (rb = false) := by show _ = _; rw [hrb, hg]; simp
          clear hrb
          go_wp2
          refine wp_region_ext wr.heap.size (by kernel_rfl) (by kernel_rfl) ?_
          repeat (first | go_big_quiet_step (first | (go_at_call 120; exact ext_same _ (isDigit_c _ _))) | (refine wpQuiet_skip rfl ?_; simp only [Act.put, List.setIfInBounds_toArray, List.set_cons_succ, List.set_cons_zero]))
          refine wpQuiet_nil ?_
          intro w2 hw'
          obtain ⟨xw, hxw⟩ := hw'
          have hb2 := xw.property
          rw [← hxw] at hb2
          clear hxw xw x0 x1 x2c
          have hb3 : Below w.heap.size w w2 := hb.trans (hb2.mono hbs)
          have hA4 := hA3.keep hb2
          have hD4 := hD3.keep hb2
          clear hb2
          go_wp2
          go_roundw
          case rel => exact ⟨k + 1, by omega, by go_num, hb3, hD4, by rw [HST.out, hG.out, if_neg (by decide), ← HAT.out, List.set_getElem_self]; exact hA4⟩
          case measure => simp [RowKit.intOf]; omega
        · have hG : Hid (rb = true) := by show _ = _; rw [hrb, hg, HD.out]; rfl
          clear hrb
          go_wp2
          refine wp_region_ext wr.heap.size (by kernel_rfl) (by kernel_rfl) ?_
          repeat (first | go_big_quiet_step (first | (go_at_call 120; exact ext_same _ (isDigit_c _ _))) | (refine wpQuiet_skip rfl ?_; simp only [Act.put, List.setIfInBounds_toArray, List.set_cons_succ, List.set_cons_zero]))
          refine wpQuiet_nil ?_
          intro w2 hw'
          obtain ⟨xw, hxw⟩ := hw'
          have hb2 := xw.property
          rw [← hxw] at hb2
          clear hxw xw x0 x1 x2c
          have hb3 : Below w.heap.size w w2 := hb.trans (hb2.mono hbs)
          have hA4 := hA3.keep hb2
          have hD4 := hD3.keep hb2
          clear hb2
          have q1 : w2.cell? ⟨w.heap.size, 0, none⟩ = some (.string d.1) := hD4.cell 0
          have q2 : w2.cell? ⟨w.heap.size + 1, k * 2 + 1, none⟩ = some (.string x2) := (hA4.cell _).trans E2.out
          have q3 : w2.frozen? ⟨w.heap.size + 1, k * 2 + 1, none⟩ = false := hA4.frozen _
          have hs3 := hb3.size
          go_wp2
          go_roundw
          case rel =>
            refine ⟨k + 1, by omega, by go_num, hb3.setCell (by simp) _, At.far hD4 (by simp) _, ?_⟩
            rw [HST.out, hG.out, if_pos rfl, ← HSET.out, ← List.setIfInBounds_toArray]
            exact At.set hA4 _ _
          case measure => simp [RowKit.intOf]; omega
      · have hG : Hid (rb = false) := by show _ = _; rw [hrb, ← beq_str, hd]; rfl
        clear hrb
        go_wp2
        refine wp_region_ext wr.heap.size (by kernel_rfl) (by kernel_rfl) ?_
        repeat (first | go_big_quiet_step (first | (go_at_call 120; exact ext_same _ (isDigit_c _ _))) | (refine wpQuiet_skip rfl ?_; simp only [Act.put, List.setIfInBounds_toArray, List.set_cons_succ, List.set_cons_zero]))
        refine wpQuiet_nil ?_
        intro w2 hw'
        obtain ⟨xw, hxw⟩ := hw'
        have hb2 := xw.property
        rw [← hxw] at hb2
        clear hxw xw x0 x1 x2c
        have hb3 : Below w.heap.size w w2 := hb.trans (hb2.mono hbs)
        have hA4 := hA3.keep hb2
        have hD4 := hD3.keep hb2
        clear hb2
        go_wp2
        go_roundw
        case rel => exact ⟨k + 1, by omega, by go_num, hb3, hD4, by rw [HST.out, hG.out, if_neg (by decide), ← HAT.out, List.set_getElem_self]; exact hA4⟩
        case measure => simp [RowKit.intOf]; omega
    · have hk' : k = xs.length := by omega
      subst hk'
      rw [HRF.out] at hA3
      have hrl : (redM d xs).length = xs.length := redM_len d xs
      have ho := own_at wr (w.heap.size + 1) w.heap.size 65 (redM d xs) hA3 (by omega) (by omega)
      rw [hrl] at ho
      have HO := Lib.hid ho
      have HL := Lib.hid hrl
      clear ho hrl hA3
      go_wp2
      go_ret
      exact ⟨_, rfl, by rw [HL.out]; exact HO.out, hb⟩
end Go.Proofs.Ytogkodjlbdlgjaa
namespace Go.PM
open Go.RowKit
def lenV : Value → Nat
  | .slice _ n _ => n
  | _ => 0
/-- the list that an iterator holds: the one that it began with, or a row of its own apart from the row r -/
def HeldW (B : Nat) (e : TypeId) (v : Value) (xs : List Mv) (r : Option Nat) (A : World) (wv : Value) (ws : List Mv) : Prop :=
  (wv = v ∧ ws = xs) ∨ (A.ownsRow B e 2 wv ws.length (mcells ws) ∧ ∀ g, wv.ownBlock = some g → r ≠ some g)
theorem grown_cell (W : World) (a : Addr) (v : Value) : W.grownBy (W.setCell a v) (some a.block) :=
  ⟨rfl, rfl, rfl, by simp [World.size_setCell], fun k _ hne => heap_setCell_other W a k v (fun e => hne (by rw [e]))⟩
theorem own_blk {w : World} {base : Nat} {e : TypeId} {size n g : Nat} {v : Value} {cs : List Value} (h : w.ownsRow base e size v n cs) (hg : v.ownBlock = some g) : g < w.heap.size ∧ base ≤ g := by
  refine ⟨?_, own_block_ge h g hg⟩
  rcases h.2 with ⟨rfl, _⟩ | ⟨g', cap, cur, rfl, _, hh, _⟩
  · cases hg
  · cases hg
    exact (Array.getElem?_eq_some_iff.1 hh).1
theorem HeldW.rd {B : Nat} {e : TypeId} {v : Value} {xs : List Mv} {r : Option Nat} {A : World} {wv : Value} {ws : List Mv} (h : HeldW B e v xs r A wv ws) (hx : RdM A v xs) : RdM A wv ws := by
  rcases h with ⟨rfl, rfl⟩ | ⟨h, _⟩
  · exact hx
  · exact Rd.of_own h
theorem HeldW.below {B : Nat} {e : TypeId} {v : Value} {xs : List Mv} {r : Option Nat} {A A' : World} {wv : Value} {ws : List Mv} (h : HeldW B e v xs r A wv ws) (hb : Below A.heap.size A A') : HeldW B e v xs r A' wv ws := by
  rcases h with h | ⟨h, h2⟩
  · exact .inl h
  · exact .inr ⟨own_keep h hb, h2⟩
theorem HeldW.step {B : Nat} {e : TypeId} {v : Value} {xs : List Mv} {r r' : Option Nat} {A A' : World} {wv : Value} {ws : List Mv} (h : HeldW B e v xs r A wv ws) (hs : RowStep B r r' A A') : HeldW B e v xs r' A' wv ws := by
  rcases h with h | ⟨h, h2⟩
  · exact .inl h
  · refine .inr ⟨⟨h.1, ?_⟩, fun g hg e => ?_⟩
    · rcases h.2 with h' | ⟨g, cap, cur, rfl, hbg, hh, hr⟩
      · exact .inl h'
      · have hlt := (Array.getElem?_eq_some_iff.1 hh).1
        exact .inr ⟨g, cap, cur, rfl, hbg, (hs.same g hbg hlt (fun e => h2 g rfl e.symm)).trans hh, hr⟩
    · have hb := own_blk h hg
      rcases hs.row with h3 | h3
      · exact h2 g hg (by rw [← h3]; exact e)
      · have := h3 g e; omega
theorem HeldW.new {B : Nat} {e : TypeId} {v : Value} {xs : List Mv} {r : Option Nat} {A A' : World} {wv : Value} {ws : List Mv} (h : A'.ownsRow A.heap.size e 2 wv ws.length (mcells ws)) (hB : B ≤ A.heap.size) (hr : ∀ g, r = some g → g < A.heap.size) : HeldW B e v xs r A' wv ws := by
  refine .inr ⟨own_more h hB, fun g hg e => ?_⟩
  have h1 := (own_blk h hg).2
  have := hr g e
  omega
end Go.PM
namespace Go.Proofs.Ytogkodjlbdlgjaa
open Go.RowKit Go.PM

end Go.Proofs.Ytogkodjlbdlgjaa
namespace Go.PM
open Go.RowKit
theorem leastK_ex {P : Nat → Prop} : ∀ n, P n → ∃ m, P m ∧ ∀ k, P k → m ≤ k := by
  intro n
  induction n using Nat.strongRecOn with
  | ind n ih =>
    intro h
    by_cases h2 : ∃ m, m < n ∧ P m
    · obtain ⟨m, h3, h4⟩ := h2; exact ih m h3 h4
    · exact ⟨n, h, fun k hk => Nat.le_of_not_lt fun hlt => h2 ⟨k, hlt, hk⟩⟩
open Classical in
/-- the least number of which P holds -/
noncomputable def leastK (P : Nat → Prop) : Nat := if h : ∃ m, P m ∧ ∀ k, P k → m ≤ k then Classical.choose h else 0
theorem leastK_spec {P : Nat → Prop} (h : ∃ n, P n) : P (leastK P) ∧ ∀ k, P k → leastK P ≤ k := by
  obtain ⟨n, hn⟩ := h
  have hx := leastK_ex n hn
  unfold leastK
  rw [dif_pos hx]
  exact Classical.choose_spec hx
/-- what the ordering holds at the head of a round: k steps are enough for what waits -/
def OrdR (B : Nat) (e : TypeId) (v : Value) (xs : List Mv) (J : Option Nat → List Mv → World → Prop) (k : Nat) (wv : Value) (A : World) : Prop :=
  ∃ (pre ws : List Mv) (r : Option Nat), pre ++ ordF k ws = ordF 19 xs ∧ Wt ws ∧ muW ws ≤ k ∧ ws.length ≤ 9 ∧ J r pre A ∧ HeldW B e v xs r A wv ws ∧ B ≤ A.heap.size
end Go.PM
namespace Go.Proofs.Ytogkodjlbdlgjaa
open Go.RowKit Go.PM

set_option maxRecDepth 100000 in
set_option maxHeartbeats 3200000 in
theorem order_iter (xs : List Mv) (v : Value) (b1 n : Nat) (hn : 1 ≤ n) (hW : Wt xs) (hl : xs.length ≤ 9) :
    IterR (fun A => At A b1 29 #[v] ∧ RdM A v xs) Fence.wide n Try.prog 138 (fun y => #[] ++ #[y] ++ #[.pointer (some ⟨b1, 0, none⟩)]) (fun m : Mv => #[.agg #[.int .i64 0, .string m.1, .string m.2]]) (ordF 19 xs) := by
  intro l J r0 W hJ hP hY h0
  obtain ⟨⟨hA1, hx0⟩, hr0⟩ := hP _ _ _ h0
  have c1 : W.cell? ⟨b1, 0, none⟩ = some v := hA1.cell 0
  have HF := Lib.hid (fun ws wv A hx hl hp => firstAhead_c ws wv A hx (by omega : ws.length ≤ 1048576) hp)
  have HWO := Lib.hid (fun ws wv i hi A hx hl => without_c ws wv i hi A hx (by omega : ws.length ≤ 1048576))
  have HRE := Lib.hid (fun ws wv d A hx hl => redirected_c ws wv d A hx (by omega : ws.length ≤ 1048576))
  refine callsIn_of_wp Try.func138 rfl trivial ?_ rfl
  simp only [Try.ntmps138, List.size_toArray, List.length_cons, List.length_nil, Nat.reduceAdd, Nat.reduceSub, Array.replicate_succ, Array.replicate_zero, List.push_toArray, List.append_toArray, List.nil_append, List.cons_append]
  gi_wp2
  gi_loopw [3, 4, 5, 6] (fun wv _ _ _ wr => ∃ k, OrdR W.heap.size 65 v xs J k wv wr) (fun wv _ _ _ wr => leastK (fun k => OrdR W.heap.size 65 v xs J k wv wr))
  case atStart =>
    have : muW xs ≤ 19 := by unfold muW; split <;> omega
    exact ⟨19, [], xs, r0, rfl, hW, this, hl, h0, .inl ⟨rfl, rfl⟩, Nat.le_refl _⟩
  case round =>
    obtain ⟨hru, _⟩ := leastK_spec hrel
    generalize hkk : leastK (fun k => OrdR W.heap.size 65 v xs J k u3 wr) = kk at *
    have HKK := Lib.hid hkk
    clear hrel hkk
    obtain ⟨pre, ws, r, hpr, hwt, hmu, h9, hj, hh, hsz⟩ := hru
    obtain ⟨⟨_, hxr⟩, hrr⟩ := hP _ _ _ hj
    have hrd := hh.rd hxr
    obtain ⟨A, cap, rfl, hn1, hc1, hcell⟩ := hrd.open
    by_cases h0 : 0 < ws.length
    · obtain ⟨k, rfl⟩ : ∃ k', kk = k' + 1 := ⟨kk - 1, by unfold muW at hmu; omega⟩
      obtain ⟨b, off, rfl, hbl, d1', d2'⟩ := hcell 0 h0
      have hcs : ∀ q (hq : q < ws.length), wr.cell? ⟨b, off + q * 2, none⟩ = some (.string ws[q].1) ∧ wr.cell? ⟨b, off + q * 2 + 1, none⟩ = some (.string ws[q].2) := fun q hq => by
        obtain ⟨b', off', e, _, q1, q2⟩ := hcell q hq
        cases e; exact ⟨q1, q2⟩
      have d1 : wr.cell? ⟨b, off, none⟩ = some (.string ws[0].1) := by simpa using d1'
      have i00 : (0 : Int) < (ws.length : Int) := by omega
      clear d1' d2' hcell
      have hbw : Below wr.heap.size wr (wr.alloc (.cells #[.string spT, .string ws[0].1] 65)) := (Below.refl _ _).alloc (Nat.le_refl _) _
      have hfa := HF.out ws _ _ (hrd.below hbw) (by omega) hwt.to_
      have hNw : At (wr.alloc (.cells #[.string spT, .string ws[0].1] 65)) wr.heap.size 65 #[.string spT, .string ws[0].1] := At.new _ _ _
      have HSP : Hid (spT = ⟨#[116]⟩) := rfl
      rcases aheadZ_lt ws with hz | ⟨i, hi, hz, ha⟩
      · have ha := aheadI_of_neg hz
        have hof := ordF_none (n := k) h0 ha
        have hpx : pre ++ [(spT, ws[0].1)] <+: ordF 19 xs := by
          rw [← hpr, hof]; exact ⟨ordF k (redM (spT, ws[0].1) ws), by simp⟩
        have hnx : Hid ((pre ++ [(spT, ws[0].1)]) ++ ordF k (redM (spT, ws[0].1) ws) = ordF 19 xs ∧ Wt (redM (spT, ws[0].1) ws) ∧ muW (redM (spT, ws[0].1) ws) ≤ k ∧ (redM (spT, ws[0].1) ws).length ≤ 9) :=
          ⟨by rw [← hpr, hof]; simp, (hwt.none_ h0 ha).1, by have := muW_none hwt h0 ha; omega, by rw [redM_len]; exact h9⟩
        rw [hz] at hfa
        clear hz hof hpr ha hcs
        generalize ws[0].1 = x1 at *
        generalize spT = sp at *
        have hsp := HSP.out
        subst hsp
        gi_wp2_with fail
        refine ⟨trivial, callsIn_wide.2 (hfa.mono ?_)⟩
        rintro e W2 ⟨rfl, hb2⟩
        have hbw2 := hbw.trans (hb2.mono (by simp))
        have hJ2 : J r pre W2 := hJ _ _ _ _ none hj (grown_below hbw2 none) (fun r e => by cases e)
        have hh2 := hh.below hbw2
        have hN2 := hNw.keep hb2
        have hs2 := Nat.le_trans hsz hbw2.size
        clear hb2 hbw hNw hj hh hrd hxr d1 hbl hfa
        -- the step is handed out; what is left is redirected
        have hyl := hY r pre ((⟨#[116]⟩ : ByteArray), x1) W2 hJ2 hs2 hpx
        obtain ⟨fn, tmps, assign, body, hy, hR⟩ := hyl
        have n1 : W2.cell? ⟨wr.heap.size, 0, none⟩ = some (.string (⟨#[116]⟩ : ByteArray)) := hN2.cell 0
        have n2 : W2.cell? ⟨wr.heap.size, 1, none⟩ = some (.string x1) := hN2.cell 1
        gi_wp2
        refine hR.mono ?_
        rintro e W3 ⟨rfl, r', hJ3, hst⟩
        have hh3 := hh2.step hst
        have hs3 := Nat.le_trans hs2 hst.size
        obtain ⟨⟨_, hx3⟩, hr3⟩ := hP _ _ _ hJ3
        have hrd3 := hh3.rd hx3
        have hN3 : At W3 wr.heap.size 65 #[.string (⟨#[116]⟩ : ByteArray), .string x1] := (hst.same _ hsz hN2.lt (fun e => by have := hrr _ e.symm; omega)).trans hN2
        have m1 : W3.cell? ⟨wr.heap.size, 0, none⟩ = some (.string (⟨#[116]⟩ : ByteArray)) := hN3.cell 0
        have m2 : W3.cell? ⟨wr.heap.size, 1, none⟩ = some (.string x1) := hN3.cell 1
        clear n1 n2 hN2 hh2 hJ2 hst hR hy
        gi_wp2_with fail
        refine ⟨trivial, callsIn_wide.2 ((HRE.out _ _ ((⟨#[116]⟩ : ByteArray), x1) W3 hrd3 (by omega)).mono ?_)⟩
        rintro e W4 ⟨v4, rfl, ho4, hb4⟩
        have hh4 : HeldW W.heap.size 65 v xs r' W4 v4 _ := HeldW.new ho4 hs3 hr3
        have hJ4 : J r' (pre ++ [((⟨#[116]⟩ : ByteArray), x1)]) W4 := hJ _ _ _ _ none hJ3 (grown_below hb4 none) (fun r e => by cases e)
        have hs4 := Nat.le_trans hs3 hb4.size
        have hOR : OrdR W.heap.size 65 v xs J k v4 W4 := ⟨_, _, r', hnx.out.1, hnx.out.2.1, hnx.out.2.2.1, hnx.out.2.2.2, hJ4, hh4, hs4⟩
        clear hN3 m1 m2 hrd3 hx3 hr3 hh3 hJ3 hh4 hJ4 ho4 hb4
        gi_wp2
        go_roundw
        case rel => exact ⟨k, hOR⟩
        case measure =>
          rw [HKK.out]
          have := (leastK_spec (P := fun k => OrdR W.heap.size 65 v xs J k v4 W4) ⟨k, hOR⟩).2 _ hOR
          omega
      · have hof := ordF_some (n := k) hi ha
        have hpx : pre ++ [ws[i]] <+: ordF 19 xs := by
          rw [← hpr, hof]; exact ⟨ordF k (redM ws[i] (ws.eraseIdx i)), by simp⟩
        have hnx : Hid ((pre ++ [ws[i]]) ++ ordF k (redM ws[i] (ws.eraseIdx i)) = ordF 19 xs ∧ Wt (redM ws[i] (ws.eraseIdx i)) ∧ muW (redM ws[i] (ws.eraseIdx i)) ≤ k ∧ (redM ws[i] (ws.eraseIdx i)).length ≤ 9) :=
          ⟨by rw [← hpr, hof]; simp, hwt.some_ hi (aheadI_some ha).2, by have := muW_some hi ws[i]; omega, by rw [redM_len, List.length_eraseIdx_of_lt hi]; omega⟩
        have hlen2 : (ws.eraseIdx i).length ≤ 9 := by rw [List.length_eraseIdx_of_lt hi]; omega
        rw [hz] at hfa
        have hci := hcs i hi
        have i0 : (0 : Int) ≤ (i : Int) := by omega
        have i1 : (i : Int) < (ws.length : Int) := by omega
        have HWW := Lib.hid (fun A hx hl => HWO.out ws (.slice (some ⟨b, off, none⟩) ws.length cap) i hi A hx hl)
        clear hz hof hpr ha hcs
        generalize ws.eraseIdx i = ws2 at *
        rw [show ws[i] = (ws[i].1, ws[i].2) from rfl] at hpx hnx
        generalize ws[0].1 = x0 at *
        generalize ws[i].1 = y1 at *
        generalize ws[i].2 = y2 at *
        generalize spT = sp at *
        have hsp := HSP.out
        subst hsp
        gi_wp2_with fail
        refine ⟨trivial, callsIn_wide.2 (hfa.mono ?_)⟩
        rintro e W2 ⟨rfl, hb2⟩
        have hbw2 := hbw.trans (hb2.mono (by simp))
        have hN2 := hNw.keep hb2
        have hs2 := Nat.le_trans hsz hbw2.size
        have e1 := (hbw2.cell (p := ⟨b, off + i * 2, none⟩) hbl).trans hci.1
        have e2 := (hbw2.cell (p := ⟨b, off + i * 2 + 1, none⟩) hbl).trans hci.2
        have hrd2 := hrd.below hbw2
        clear hb2 hbw hNw d1 hfa hci
        gi_wp2
        have i0' : (0 : Int) ≤ (i : Int) := i0
        have hc4 := HWW.out W2.drew hrd2 (by omega)
        have HC4 := Lib.hid hc4
        clear hc4
        have e1d : W2.drew.cell? ⟨b, off + i * 2, none⟩ = some (.string y1) := e1
        have e2d : W2.drew.cell? ⟨b, off + i * 2 + 1, none⟩ = some (.string y2) := e2
        have hblw : b < W2.heap.size := Nat.lt_of_lt_of_le hbl hbw2.size
        gi_region_with (refine ⟨trivial, (callsIn_wide.2 HC4.out).mono ?_⟩; rintro e W5 ⟨v5, rfl, ho5, hb5⟩; have e1e := (hb5.cell (p := ⟨b, off + i * 2, none⟩) hblw).trans e1d; have e2e := (hb5.cell (p := ⟨b, off + i * 2 + 1, none⟩) hblw).trans e2d; have hN5 : At _ wr.heap.size 65 #[.string ⟨#[116]⟩, .string x0] := At.keep (w := W2.drew) hN2 hb5; have n1e := hN5.cell 0; have n2e := hN5.cell 1; have z1e := hN5.frozen 0; have z2e := hN5.frozen 1; simp only [List.getElem?_toArray, List.getElem?_cons_zero, List.getElem?_cons_succ] at n1e n2e)
        all_goals
          have hge5 := own_block_ge ho5
          have hs5 := hb5.size
          have hdz : W2.drew.heap.size = W2.heap.size := rfl
          have hlw : wr.heap.size < W2.heap.size := hN2.lt
          obtain ⟨W6, hW6⟩ : ∃ W6, W6 = (W5.setCell ⟨wr.heap.size, 0, none⟩ (.string y1)).setCell ⟨wr.heap.size, 1, none⟩ (.string y2) := ⟨_, rfl⟩
          have hN6 : At W6 wr.heap.size 65 #[.string y1, .string y2] := by
            rw [hW6]; have := (hN5.set 0 (.string y1)).set 1 (.string y2); simpa using this
          have hbw5 : Below wr.heap.size wr W5 := hbw2.drew.trans (hb5.mono (by omega))
          have hbw6 : Below wr.heap.size wr W6 := by rw [hW6]; exact (hbw5.setCell (by simp) _).setCell (by simp) _
          have hJ6 : J r pre W6 := hJ _ _ _ _ none hj (grown_below hbw6 none) (fun r e => by cases e)
          have hs6 := Nat.le_trans hsz hbw6.size
          have hown6 : W6.ownsRow W2.heap.size 65 2 v5 ws2.length (mcells ws2) := by
            have hne : v5.ownBlock ≠ some wr.heap.size := fun e => by have := hge5 _ e; omega
            rw [hW6]
            exact own_grown (own_grown ho5 (grown_cell W5 ⟨wr.heap.size, 0, none⟩ _) (.inl hne)) (grown_cell _ ⟨wr.heap.size, 1, none⟩ _) (.inl hne)
          have hh6 : HeldW W.heap.size 65 v xs r W6 v5 ws2 := HeldW.new hown6 hs2 (fun g e => by have := hrr g e; omega)
          rw [← hW6]
          clear hge5 hN5 n1e n2e z1e z2e e1e e2e e1d e2d e1 e2 hown6 hbw5 hbw6 hb5 ho5 HC4 HWW hrd2 hN2 hW6 hj hh hrd hxr
          -- the step is handed out; what is left is redirected
          have hyl := hY r pre (y1, y2) W6 hJ6 hs6 hpx
          obtain ⟨fn, tmps, assign, body, hy, hR⟩ := hyl
          have n1 : W6.cell? ⟨wr.heap.size, 0, none⟩ = some (.string y1) := hN6.cell 0
          have n2 : W6.cell? ⟨wr.heap.size, 1, none⟩ = some (.string y2) := hN6.cell 1
          gi_wp2
          refine hR.mono ?_
          rintro e W3 ⟨rfl, r', hJ3, hst⟩
          have hh3 := hh6.step hst
          have hs3 := Nat.le_trans hs6 hst.size
          obtain ⟨⟨_, hx3⟩, hr3⟩ := hP _ _ _ hJ3
          have hrd3 := hh3.rd hx3
          have hN3 : At W3 wr.heap.size 65 #[.string y1, .string y2] := (hst.same _ hsz hN6.lt (fun e => by have := hrr _ e.symm; omega)).trans hN6
          have m1 : W3.cell? ⟨wr.heap.size, 0, none⟩ = some (.string y1) := hN3.cell 0
          have m2 : W3.cell? ⟨wr.heap.size, 1, none⟩ = some (.string y2) := hN3.cell 1
          clear n1 n2 hN6 hh6 hJ6 hst hR hy
          gi_wp2_with fail
          refine ⟨trivial, callsIn_wide.2 ((HRE.out _ _ (y1, y2) W3 hrd3 (by omega)).mono ?_)⟩
          rintro e W4 ⟨v4, rfl, ho4, hb4⟩
          have hh4 : HeldW W.heap.size 65 v xs r' W4 v4 _ := HeldW.new ho4 hs3 hr3
          have hJ4 : J r' (pre ++ [(y1, y2)]) W4 := hJ _ _ _ _ none hJ3 (grown_below hb4 none) (fun r e => by cases e)
          have hs4 := Nat.le_trans hs3 hb4.size
          have hOR : OrdR W.heap.size 65 v xs J k v4 W4 := ⟨_, _, r', hnx.out.1, hnx.out.2.1, hnx.out.2.2.1, hnx.out.2.2.2, hJ4, hh4, hs4⟩
          clear hN3 m1 m2 hrd3 hx3 hr3 hh3 hJ3 hh4 hJ4 ho4 hb4
          gi_wp2
          go_roundw
          case rel => exact ⟨k, hOR⟩
          case measure =>
            rw [HKK.out]
            have := (leastK_spec (P := fun k => OrdR W.heap.size 65 v xs J k v4 W4) ⟨k, hOR⟩).2 _ hOR
            omega
    · have : ws = [] := List.length_eq_zero_iff.1 (by omega)
      subst this
      have hdone : J r (ordF 19 xs) wr := by
        rw [ordF_nil, List.append_nil] at hpr
        rw [← hpr]; exact hj
      gi_wp2
      go_end0
      exact ⟨⟨_, rfl⟩, r, hdone⟩
end Go.Proofs.Ytogkodjlbdlgjaa
namespace Go.PM
open Go.RowKit
/-- the moves without idle ones, in the order of their places; none where they are not valid -/
def bioM (xs : List Mv) : List Mv := if mvalid xs then busyF xs 9 else []
theorem bioM_yes {xs : List Mv} (h : MV xs) : bioM xs = busyF xs 9 := if_pos (by simpa [mvalid] using h)
theorem bioM_no {xs : List Mv} (h : ¬ MV xs) : bioM xs = [] := if_neg (by simpa [mvalid] using h)
theorem bioM_len (xs : List Mv) : (bioM xs).length ≤ 9 := by
  unfold bioM; split
  · exact busyF_len xs 9
  · simp
theorem Wt_nil : Wt [] := ⟨by simp, by simp, by simp, by simp, by simp [rdN]⟩
theorem bioM_Wt (xs : List Mv) : Wt (bioM xs) := by
  by_cases h : MV xs
  · rw [bioM_yes h]; exact busyF_Wt h
  · rw [bioM_no h]; exact Wt_nil
theorem bioM_tab {xs : List Mv} (h : MV xs) : mvT (noIdle (tabOf xs)) (List.range 9) = bioM xs := by
  rw [mvT_idle, bioM_yes h]
  exact lsF_congr fun p hp => srcT_M h hp
theorem bioM_zero {xs : List Mv} (h : ¬ MV xs) : mvT (noIdle (fun _ => emp)) (List.range 9) = bioM xs := by
  rw [mvT_idle, bioM_no h, ← lsF_nm]
  exact lsF_congr fun p _ => srcT_zero p
theorem ordM_bio (xs : List Mv) : ordM xs = ordF 19 (bioM xs) := by
  by_cases h : MV xs
  · rw [bioM_yes h]; unfold ordM; rw [if_pos (by simpa [mvalid] using h)]
  · rw [bioM_no h, ordF_nil]; unfold ordM; rw [if_neg (by simpa [mvalid] using h)]
theorem stL_len (ms : List Mv) : (stL ms).length = ms.length := by simp [stL]
theorem ordM_len (xs : List Mv) : (ordM xs).length ≤ 19 := by
  unfold ordM; split
  · exact ordF_len _ _
  · simp
theorem wspM_len (xs : List Mv) : (wspM xs).length ≤ 9 := by
  unfold wspM; split
  · have h1 := takF_len 9 (busyF xs 9)
    have h2 := busyF_len xs 9
    unfold takM; omega
  · simp
theorem takF_nil (n : Nat) : takF n [] = [] := takF_none rfl
end Go.PM
namespace Go.Proofs.Ytogkodjlbdlgjaa
open Go.RowKit Go.PM
attribute [local go_sem] Oper.semAt_some

set_option maxRecDepth 100000 in
set_option maxHeartbeats 1600000 in
theorem busyInOrder_c (xs : List Mv) (v : Value) (w : World) (hx : RdM w v xs) :
    Calls Try.prog 122 #[v] w fun e w' => ∃ v', e = .returned (.tuple #[v', .bool (mvalid xs)]) ∧ w'.ownsRow w.heap.size 65 2 v' (bioM xs).length (mcells (bioM xs)) ∧ Below w.heap.size w w' := by
  obtain ⟨f, hf, hm⟩ : ∃ f, (Calls Try.prog 87 #[v] w fun e w' => e = .returned (.tuple #[tabX f, .bool (mvalid xs)]) ∧ Below w.heap.size w w') ∧ mvT (noIdle f) (List.range 9) = bioM xs := by
    by_cases h : MV xs
    · have := tableOf_yes xs h v w hx
      exact ⟨tabOf xs, by rw [show mvalid xs = true by simpa [mvalid] using h]; exact this, bioM_tab h⟩
    · have := tableOf_no xs h v w hx
      exact ⟨fun _ => emp, by rw [show mvalid xs = false by simpa [mvalid] using h]; exact this, bioM_zero h⟩
  have HX := Lib.hid hf
  have HLI := Lib.hid (fun W => list_c (noIdle f) W)
  rw [hm] at HLI
  clear hf hx hm
  go_enter Try.func122, Try.ntmps122
  go_wp2_with fail
  refine HX.out.mono ?_
  rintro e w1 ⟨rfl, hb1⟩
  have hs1 := hb1.size
  have k1 : At (w1.alloc (.cells (tabA f) 106)) w1.heap.size 106 (tabA f) := At.new w1 _ _
  have hB1 := hb1.alloc hs1 (.cells (tabA f) 106)
  have hs2 := hB1.size
  clear hb1
  go_wp2_with (refine ld_row rfl 106 (.tmp 4) rfl w1.heap.size 106 (tabC f) k1 (by rfl) 9 9 Try.underlying106 (by kernel_rfl) ?_; refine held ?_)
  unfold Held
  go_wp2_with (go_at_call 136; refine (idle_c f _).mono ?_; rintro e w5 ⟨rfl, hb5⟩; refine held ?_)
  unfold Held
  have hB5 := hB1.trans (hb5.mono hs2)
  have hs5 := hB5.size
  clear hb5 hB1
  go_wp2_with (go_at_call 137; refine (HLI.out _).mono ?_; rintro e w6 ⟨v', rfl, ho, hb6⟩; refine held ?_)
  unfold Held
  have hB6 := hB5.trans (hb6.mono hs5)
  have ho6 := own_more ho hs5
  clear hb6 hB5 ho
  go_wp2
  go_ret2
  exact ⟨_, rfl, ho6, hB6⟩
theorem orderedSteps_c (A : Option Addr) (n c : Nat) (w : World) :
    Calls Try.prog 123 #[.slice A n c] w fun e w' => e = .returned (.func (.func 138) #[] #[.pointer (some ⟨w.heap.size, 0, none⟩)]) ∧ w.alloc (.cells #[.slice A n c] 29) = w' := by
  go_enter Try.func123, Try.ntmps123
  go_wp2
  go_ret
  exact ⟨rfl, rfl⟩
set_option maxRecDepth 100000 in
set_option maxHeartbeats 1600000 in
theorem imOrderMoves_c (xs : List Mv) (v : Value) (w : World) (hx : RdM w v xs) :
    Calls Try.prog 99 #[v] w fun e w' => ∃ v', e = .returned (.tuple #[v', .bool (mvalid xs)]) ∧ w'.ownsRow w.heap.size 67 3 v' (ordM xs).length (scells (stL (ordM xs))) ∧ Below w.heap.size w w' := by
  have HB := Lib.hid (busyInOrder_c xs v w hx)
  have hwt := bioM_Wt xs
  have hln := bioM_len xs
  have HOB := Lib.hid (ordM_bio xs)
  rcases Bool.eq_false_or_eq_true (mvalid xs) with h1 | h1
  · have h1' := Lib.hid h1
    go_enter Try.func99, Try.ntmps99
    go_wp2_with fail
    refine HB.out.mono ?_
    rintro e w1 ⟨v1, he, ho1, hb1⟩
    rw [h1] at he
    subst he
    have hs1 := hb1.size
    have hbx : Below w1.heap.size w1 (w1.alloc (.cells #[v1] 29)) := (Below.refl _ _).alloc (Nat.le_refl _) _
    have hB1 := hb1.trans (hbx.mono hs1)
    have hrd : RdM (w1.alloc (.cells #[v1] 29)) v1 (bioM xs) := (Rd.of_own ho1).below hbx
    have hA : At (w1.alloc (.cells #[v1] 29)) w1.heap.size 29 #[v1] := At.new _ _ _
    have HC := Lib.hid (fun W hP => collectS_c (Pr := fun A => At A w1.heap.size 29 #[v1] ∧ RdM A v1 (bioM xs)) 138 #[] #[.pointer (some ⟨w1.heap.size, 0, none⟩)] (fun _ _ => rfl) (ordF 19 (bioM xs)) (order_iter (bioM xs) v1 w1.heap.size 4 (by omega) hwt hln) W hP (by have := ordF_len 19 (bioM xs); omega))
    obtain ⟨A1, c1, rfl, _⟩ := Rd.of_own ho1
    clear hb1 ho1 hwt hln h1
    generalize hbi : bioM xs = bi at *
    clear hbi
    go_wp2_with (go_at_call 123; refine (orderedSteps_c _ _ _ _).mono ?_; rintro e wq ⟨rfl, rfl⟩; refine held ?_)
    unfold Held
    go_wp2_with (go_at_call 60; refine (HC.out _ (fun A hAb => ⟨hA.keep hAb, hrd.below hAb⟩)).mono ?_; rintro e w2 ⟨v2, rfl, ho2, hb2⟩; refine held ?_)
    unfold Held
    have hB2 := hB1.trans (hb2.mono hB1.size)
    have ho3 := own_more ho2 hB1.size
    rw [← HOB.out] at ho3
    clear ho2 hb2 hB1 hrd hA
    go_wp2
    go_ret2
    exact ⟨_, by rw [h1'.out]; rfl, ho3, hB2⟩
  · have hno : ordM xs = [] := by unfold ordM; rw [if_neg (by rw [h1]; decide)]
    have HNO := Lib.hid hno
    clear hno
    go_enter Try.func99, Try.ntmps99
    go_wp2_with fail
    refine HB.out.mono ?_
    rintro e w1 ⟨v1, he, ho1, hb1⟩
    rw [h1] at he
    subst he
    go_wp2
    go_ret2
    exact ⟨_, by rw [h1]; rfl, by rw [HNO.out]; exact ⟨rfl, .inl ⟨rfl, rfl⟩⟩, hb1⟩
theorem imOrderMovesL_c (xs : List Mv) (v : Value) (w : World) (hx : RdM w v xs) :
    Calls Try.prog 99 #[v] w fun e w' => ∃ v', e = .returned (.tuple #[v', .bool (mvalid xs)]) ∧ w'.ownsRow w.heap.size 67 3 v' (stL (ordM xs)).length (scells (stL (ordM xs))) ∧ Below w.heap.size w w' := by
  rw [stL_len]; exact imOrderMoves_c xs v w hx
end Go.Proofs.Ytogkodjlbdlgjaa
namespace Go.PM
open Go.RowKit
def zS : Nat → UInt8 := fun _ => 0
abbrev zSA : Array Value := #[.int .u8 0, .int .u8 0, .int .u8 0, .int .u8 0, .int .u8 0, .int .u8 0, .int .u8 0, .int .u8 0, .int .u8 0, .int .u8 0, .int .u8 0]
theorem stC_zS : stC zS = zSA := by simp [stC, zS]
def stOf (s : ByteArray) : Nat → UInt8 := if stateV s then ofB s else zS
theorem stOf_yes {s : ByteArray} (h : stateV s = true) : stOf s = ofB s := if_pos h
theorem stOf_no {s : ByteArray} (h : stateV s = false) : stOf s = zS := if_neg (by rw [h]; decide)
def valL (l : List UInt8) (k : Nat) : Bool := (l.take k).all isV
theorem valL_succ (l : List UInt8) (k : Nat) (hk : k < l.length) : valL l (k + 1) = (valL l k && isV l[k]) := by
  unfold valL; rw [take_snoc l k hk, List.all_append]; simp
def mixS (s : ByteArray) (k : Nat) : Nat → UInt8 := fun p => if p < k then ofB s p else 0
theorem mixS_zero (s : ByteArray) : mixS s 0 = zS := by funext p; simp [mixS, zS]
theorem mixS_succ (s : ByteArray) (k : Nat) : updS (mixS s k) k (ofB s k) = mixS s (k + 1) := by
  funext p
  unfold updS mixS
  by_cases h : p = k
  · subst h; simp
  · by_cases h2 : p < k
    · simp [h, h2, Nat.lt_succ_of_lt h2]
    · have : ¬ p < k + 1 := by omega
      simp [h, h2, this]
theorem mixS_full (s : ByteArray) : stC (mixS s 11) = stC (ofB s) := stC_congr fun p hp => by simp [mixS, hp]
end Go.PM
namespace Go.Proofs.Ytogkodjlbdlgjaa
open Go.RowKit Go.PM

end Go.Proofs.Ytogkodjlbdlgjaa
namespace Go.Proofs.Ytogkodjlbdlgjaa
open Go.RowKit Go.PM

theorem read_c (f : Nat → UInt8) (a : ByteArray) (h : okC a = true) (w : World) :
    Calls Try.prog 128 #[stV f, .string a] w fun e w' => e = .returned (.int .u8 (rdS f a).toNat) ∧ Below w.heap.size w w' := by
  rcases Bool.eq_false_or_eq_true (isC a) with hc | hc
  · have hlt := cidx_lt hc
    have hr := rdS_cell (f := f) hc
    have hci := fun W => cellOf_yes a hc W
    have hA := At.new w 80 (stC f)
    have hpc := (hA.cell _).trans (stC_at f _ hlt)
    have HR := Lib.hid hr
    have i0 : (0 : Int) ≤ (cidx a : Int) := by omega
    have i1 : (cidx a : Int) < 11 := by omega
    clear h hc hr
    generalize cidx a = k at *
    go_enter Try.func128, Try.ntmps128
    go_wp2_with (go_at_call 127; refine (hci _).mono ?_; rintro e w' ⟨rfl, rfl⟩)
    go_ret
    exact ⟨by rw [HR.out]; rfl, by (repeat' (first | (with_reducible exact Below.refl _ _) | (with_reducible assumption) | (with_reducible refine Below.alloc ?_ ?_ _) | (with_reducible refine Below.drew ?_) | (with_reducible refine Below.setCell ?_ ?_ _) | (with_reducible exact Nat.le_refl _) | omega | ((repeat (first | rewrite [World.size_alloc] | rewrite [World.size_setCell] | rewrite [World.size_drew])); omega) | (simp; omega) | (simp; done)))⟩
  · have hd : isD a = true := by unfold okC at h; rw [hc, Bool.false_or] at h; exact h
    have hr := rdS_digit (f := f) hc
    have hsz := isD_size hd
    have hci := fun W => cellOf_no a hc W
    obtain ⟨c, rfl⟩ := one_of_size hsz
    have HR : Hid (rdS f ⟨#[c]⟩ = c) := hr
    clear h hc hr hd hsz
    go_enter Try.func128, Try.ntmps128
    go_wp2_with (go_at_call 127; refine (hci _).mono ?_; rintro e w' ⟨rfl, rfl⟩)
    go_ret
    exact ⟨by rw [HR.out]; rfl, by (repeat' (first | (with_reducible exact Below.refl _ _) | (with_reducible assumption) | (with_reducible refine Below.alloc ?_ ?_ _) | (with_reducible refine Below.drew ?_) | (with_reducible refine Below.setCell ?_ ?_ _) | (with_reducible exact Nat.le_refl _) | omega | ((repeat (first | rewrite [World.size_alloc] | rewrite [World.size_setCell] | rewrite [World.size_drew])); omega) | (simp; omega) | (simp; done)))⟩
theorem text_c (f : Nat → UInt8) (w : World) :
    Calls Try.prog 68 #[stV f] w fun e w' => e = .returned (.string (stB f)) ∧ Below w.heap.size w w' := by
  have hA := At.new w 80 (stC f)
  have hcv : ∀ W, At W w.heap.size 80 (stC f) → (convert 22 9 (.slice (some ⟨w.heap.size, 0, none⟩) 11 11)).run Try.prog W = .ok (.string (stB f)) W := fun W hW => by
    rw [run_convert_bytes_string _ _ _ _ _ _ _ Try.underlying22 Try.underlying5 Try.underlying9]
    have hl : (loadCells ⟨w.heap.size, 0, none⟩ 11).run Try.prog W = .ok ([((f 0).toNat : Int), (f 1).toNat, (f 2).toNat, (f 3).toNat, (f 4).toNat, (f 5).toNat, (f 6).toNat, (f 7).toNat, (f 8).toNat, (f 9).toNat, (f 10).toNat].map (Value.int .u8)).toArray W :=
      run_loadCells_list (P := Try.prog) W ⟨w.heap.size, 0, none⟩ (stC f).toList (fun j v hj => by
        have hadd : (⟨w.heap.size, 0, none⟩ : Addr).add j = ⟨w.heap.size, j, none⟩ := by unfold Addr.add; split <;> simp_all
        rw [hadd, hW.cell]
        simpa using hj)
    rw [run_bytesToString (ns := [((f 0).toNat : Int), (f 1).toNat, (f 2).toNat, (f 3).toNat, (f 4).toNat, (f 5).toNat, (f 6).toNat, (f 7).toNat, (f 8).toNat, (f 9).toNat, (f 10).toNat]) _ _ _ _ hl]
    simp [stB]
    rfl
  have hcv1 := hcv _ hA
  clear hcv
  generalize stB f = t at *
  go_enter Try.func68, Try.ntmps68
  go_wp2
  go_ret
  exact ⟨rfl, by (repeat' (first | (with_reducible exact Below.refl _ _) | (with_reducible assumption) | (with_reducible refine Below.alloc ?_ ?_ _) | (with_reducible refine Below.drew ?_) | (with_reducible refine Below.setCell ?_ ?_ _) | (with_reducible exact Nat.le_refl _) | omega | ((repeat (first | rewrite [World.size_alloc] | rewrite [World.size_setCell] | rewrite [World.size_drew])); omega) | (simp; omega) | (simp; done)))⟩
/-- a whole array is read in a quiet region: the step -/
theorem row_step {P : Program} {ops : Array Oper} {C : World → Prop} {Q : Act → Prop} {a : Act} {o : Oper} {rest : List Oper} (hw : Region.wanted o (yielded ops a.tmps) = true) (ty : TypeId) (x : Operand) (ho : o.op = .load ty x) (b : Nat) (t : TypeId) (cs : Array Value)
    (hx : a.eval x = .pointer (some ⟨b, 0, none⟩)) (hC : ∀ W, C W → At W b t cs) (k : Nat) (e : TypeId) (hu : P.underlying ty = some (.array k e)) (hi : (P.info? ty).map (·.size) = some cs.size) (h : wpQuiet P ops C Q rest (a.put o.dst (.agg cs))) : wpQuiet P ops C Q (o :: rest) a :=
  BigFrame.wpQuiet_want hw fun _ hK => quiet_row ty x ho b t cs hx hC k e hu hi (hK _ h)

set_option maxRecDepth 100000 in
set_option maxHeartbeats 800000 in
theorem moved_c (f : Nat → UInt8) (k : Int) (a b : ByteArray) (h1 : isC a = true) (h2 : okC b = true) (w : World) :
    Calls Try.prog 109 #[stV f, .agg #[.int .i64 k, .string a, .string b]] w fun e w' => e = .returned (stV (updS f (cidx a) (rdS f b))) ∧ Below w.heap.size w w' := by
  have HR : ∀ (tmps : Array Value) (W : World) (g : Nat → UInt8) (b : Nat), At W b 80 (stC g) → tmps.getD 4 undef = .pointer (some ⟨b, 0, none⟩) →
      (results Try.f109 tmps).run Try.prog W = .ok (stV g) W := fun tmps W g b hA h4 =>
    results_row1 Try.results109 tmps W _ _ _ h4 hA 11 5 Try.underlying80 (by kernel_rfl)
  have hci := fun W => cellOf_yes a h1 W
  have hrd := fun W => read_c f b h2 W
  have hlt := cidx_lt h1
  have hst := stC_set f (cidx a) hlt (rdS f b)
  have hpc := stC_at f (cidx a) hlt
  have HST := Lib.hid hst
  clear h1 h2 hst
  have i0 : (0 : Int) ≤ (cidx a : Int) := by omega
  have i1 : (cidx a : Int) < 11 := by omega
  generalize rdS f b = v at *
  generalize cidx a = i at *
  generalize updS f i v = g at *
  obtain ⟨W0, hW0⟩ : ∃ W0 : World, W0 = ((w.alloc (.cells (stC f) 80)).alloc (.cells #[.int .i64 k, .string a, .string b] 67)).alloc (.cells zSA 80) := ⟨_, rfl⟩
  have hB0 : Below w.heap.size w W0 := by rw [hW0]; (repeat' (first | (with_reducible exact Below.refl _ _) | (with_reducible assumption) | (with_reducible refine Below.alloc ?_ ?_ _) | (with_reducible refine Below.drew ?_) | (with_reducible refine Below.setCell ?_ ?_ _) | (with_reducible exact Nat.le_refl _) | omega | ((repeat (first | rewrite [World.size_alloc] | rewrite [World.size_setCell] | rewrite [World.size_drew])); omega) | (simp; omega) | (simp; done)))
  have hA0 : At W0 w.heap.size 80 (stC f) := by rw [hW0]; exact ((At.new _ _ _).alloc _).alloc _
  have hA1 : At W0 (w.heap.size + 1) 67 #[.int .i64 k, .string a, .string b] := by
    rw [hW0]; have := At.new (w.alloc (.cells (stC f) 80)) 67 #[.int .i64 k, .string a, .string b]
    rw [World.size_alloc] at this; exact this.alloc _
  have hA2 : At W0 (w.heap.size + 2) 80 zSA := by
    rw [hW0]; have := At.new ((w.alloc (.cells (stC f) 80)).alloc (.cells #[.int .i64 k, .string a, .string b] 67)) 80 zSA
    rwa [World.size_alloc, World.size_alloc] at this
  have q1 : W0.cell? ⟨w.heap.size + 1, 1, none⟩ = some (.string a) := hA1.cell 1
  have q2 : W0.cell? ⟨w.heap.size + 1, 2, none⟩ = some (.string b) := hA1.cell 2
  go_enter Try.func109, Try.ntmps109
  go_wp2_with fail
  rw [← hW0]
  refine (hci _).mono ?_
  rintro e w' ⟨rfl, rfl⟩
  clear hW0
  go_wp2_with (refine ld_row rfl 80 (.tmp 2) rfl w.heap.size 80 (stC f) hA0 (by rfl) 11 5 Try.underlying80 (by kernel_rfl) ?_)
  refine (hrd _).mono ?_
  rintro e W1 ⟨rfl, hb1⟩
  have k0 := hA0.keep hb1
  have k2 := hA2.keep hb1
  have kB := hB0.trans (hb1.mono hB0.size)
  have kc := (k0.cell i).trans hpc
  have kf := k0.frozen i
  have kl := k0.lt
  have m0 := k0.set i (.int .u8 v.toNat)
  rw [HST.out] at m0
  have m2 := k2.far (p := ⟨w.heap.size, i, none⟩) (by simp) (.int .u8 v.toNat)
  clear k0 k2 hA0 hA1 hA2 q1 q2
  go_wp2_with (first | (refine ld_row rfl 80 (.tmp 2) rfl w.heap.size 80 (stC g) m0 (by rfl) 11 5 Try.underlying80 (by kernel_rfl) ?_) | (refine st_row rfl 80 (.tmp 4) (.tmp 21) rfl rfl (w.heap.size + 2) 80 zSA (stC g) m2 (by rfl) (by rfl) (by kernel_rfl) rfl (stC_one _) ?_; intro W5 hA5 hg5))
  exact bodyPost_ret (v := stV g) (HR _ _ g (w.heap.size + 2) hA5 rfl) rfl ⟨rfl, (kB.setCell (Nat.le_refl _) _).trans (below_grown hg5 (by simp; omega) (fun g hg => by cases hg; omega))⟩
set_option maxRecDepth 100000 in
set_option maxHeartbeats 1600000 in
theorem swapped_c (f : Nat → UInt8) (k : Int) (a b : ByteArray) (h1 : isC a = true) (h2 : isC b = true) (w : World) :
    Calls Try.prog 110 #[stV f, .agg #[.int .i64 k, .string a, .string b]] w fun e w' => e = .returned (stV (swS f (cidx a) (cidx b))) ∧ Below w.heap.size w w' := by
  have HR : ∀ (tmps : Array Value) (W : World) (g : Nat → UInt8) (b : Nat), At W b 80 (stC g) → tmps.getD 4 undef = .pointer (some ⟨b, 0, none⟩) →
      (results Try.f110 tmps).run Try.prog W = .ok (stV g) W := fun tmps W g b hA h4 =>
    results_row1 Try.results110 tmps W _ _ _ h4 hA 11 5 Try.underlying80 (by kernel_rfl)
  have hci := fun W => cellOf_yes a h1 W
  have hcj := fun W => cellOf_yes b h2 W
  have hli := cidx_lt h1
  have hlj := cidx_lt h2
  have hsi := stC_set f (cidx a) hli (f (cidx b))
  have hsj := stC_set (updS f (cidx a) (f (cidx b))) (cidx b) hlj (f (cidx a))
  rw [swS_impl] at hsj
  have hpi := stC_at f (cidx a) hli
  have hpj := stC_at f (cidx b) hlj
  have hpj2 := stC_at (updS f (cidx a) (f (cidx b))) (cidx b) hlj
  have HSI := Lib.hid hsi
  have HSJ := Lib.hid hsj
  clear h1 h2 hsi hsj
  have i0 : (0 : Int) ≤ (cidx a : Int) := by omega
  have i1 : (cidx a : Int) < 11 := by omega
  have i2 : (0 : Int) ≤ (cidx b : Int) := by omega
  have i3 : (cidx b : Int) < 11 := by omega
  generalize cidx a = i at *
  generalize cidx b = j at *
  generalize swS f i j = g at *
  generalize updS f i (f j) = g1 at *
  generalize hui : f i = u at *
  generalize huj : f j = v at *
  clear hui huj
  obtain ⟨W0, hW0⟩ : ∃ W0 : World, W0 = ((w.alloc (.cells (stC f) 80)).alloc (.cells #[.int .i64 k, .string a, .string b] 67)).alloc (.cells zSA 80) := ⟨_, rfl⟩
  have hB0 : Below w.heap.size w W0 := by rw [hW0]; (repeat' (first | (with_reducible exact Below.refl _ _) | (with_reducible assumption) | (with_reducible refine Below.alloc ?_ ?_ _) | (with_reducible refine Below.drew ?_) | (with_reducible refine Below.setCell ?_ ?_ _) | (with_reducible exact Nat.le_refl _) | omega | ((repeat (first | rewrite [World.size_alloc] | rewrite [World.size_setCell] | rewrite [World.size_drew])); omega) | (simp; omega) | (simp; done)))
  have hA0 : At W0 w.heap.size 80 (stC f) := by rw [hW0]; exact ((At.new _ _ _).alloc _).alloc _
  have hA1 : At W0 (w.heap.size + 1) 67 #[.int .i64 k, .string a, .string b] := by
    rw [hW0]; have := At.new (w.alloc (.cells (stC f) 80)) 67 #[.int .i64 k, .string a, .string b]
    rw [World.size_alloc] at this; exact this.alloc _
  have hA2 : At W0 (w.heap.size + 2) 80 zSA := by
    rw [hW0]; have := At.new ((w.alloc (.cells (stC f) 80)).alloc (.cells #[.int .i64 k, .string a, .string b] 67)) 80 zSA
    rwa [World.size_alloc, World.size_alloc] at this
  have q1 : W0.cell? ⟨w.heap.size + 1, 1, none⟩ = some (.string a) := hA1.cell 1
  have q2 : W0.cell? ⟨w.heap.size + 1, 2, none⟩ = some (.string b) := hA1.cell 2
  have p1 := (hA0.cell i).trans hpi
  have p2 := (hA0.cell j).trans hpj
  have f1 := hA0.frozen i
  have f2 := hA0.frozen j
  have hlt0 := hA0.lt
  have m1 := hA0.set i (.int .u8 v.toNat)
  rw [HSI.out] at m1
  have p3 := (m1.cell j).trans hpj2
  have f3 := m1.frozen j
  have m2 : At ((W0.setCell ⟨w.heap.size, i, none⟩ (.int .u8 v.toNat)).setCell ⟨w.heap.size, j, none⟩ (.int .u8 u.toNat)).drew w.heap.size 80 (stC g) := by
    have := m1.set j (.int .u8 u.toNat)
    rw [HSJ.out] at this
    exact this
  have n2 : At ((W0.setCell ⟨w.heap.size, i, none⟩ (.int .u8 v.toNat)).setCell ⟨w.heap.size, j, none⟩ (.int .u8 u.toNat)).drew (w.heap.size + 2) 80 zSA :=
    (hA2.far (p := ⟨w.heap.size, i, none⟩) (by simp) _).far (by simp) _
  clear hA1 hA2 hA0 m1
  go_enter Try.func110, Try.ntmps110
  go_wp2_with fail
  rw [← hW0]
  refine (hci _).mono ?_
  rintro e w' ⟨rfl, rfl⟩
  clear hW0
  go_wp2_with (go_at_call 127; refine (hcj _).mono ?_; rintro e w' ⟨rfl, rfl⟩)
  go_region
  all_goals
    go_wp2_with (first | (refine ld_row rfl 80 (.tmp 2) rfl w.heap.size 80 (stC g) m2 (by rfl) 11 5 Try.underlying80 (by kernel_rfl) ?_) | (refine st_row rfl 80 (.tmp 4) (.tmp 33) rfl rfl (w.heap.size + 2) 80 zSA (stC g) n2 (by rfl) (by rfl) (by kernel_rfl) rfl (stC_one _) ?_; intro W5 hA5 hg5))
    exact bodyPost_ret (v := stV g) (HR _ _ g (w.heap.size + 2) hA5 rfl) rfl ⟨rfl, ((hB0.setCell (Nat.le_refl _) _).setCell (Nat.le_refl _) _).drew.trans (below_grown hg5 (by simp; omega) (fun g hg => by cases hg; omega))⟩
end Go.Proofs.Ytogkodjlbdlgjaa
namespace Go.PM
open Go.RowKit
section
variable {P : Program} {ops : Array Oper} {rest : List Oper} {o : Oper} {a : Act} {w : World} {Q : Exit → Act → World → Prop}
def bytesC (s : ByteArray) : Array Value := s.data.map fun b => .int .u8 b.toNat
theorem bytesC_size (s : ByteArray) : (bytesC s).size = s.size := by simp [bytesC]
/-- a string is copied over a whole row -/
theorem run_copy_text (dT sT ty elem : TypeId) (hu : P.underlying dT = some (.slice elem)) (hsz : (P.info? elem).map (·.size) = some 1) (b : Nat) (t : TypeId) (cur : Array Value) (hA : At w b t cur) (cap : Nat) (s : ByteArray) (hcur : cur.size = s.size) :
    (Builtin.copy_ #[dT, sT] ty #[.slice (some ⟨b, 0, none⟩) s.size cap, .string s]).run P w = .ok (goInt s.size) (w.setRow b (bytesC s)) := by
  have h1 : ∀ v ∈ (bytesC s).toList, v.oneCell' = true := by
    intro v hv
    simp [bytesC] at hv
    obtain ⟨x, _, rfl⟩ := hv
    rfl
  have hst := run_storeCells_at P b 0 t (bytesC s).toList 0 cur w hA (by simp [bytesC_size, hcur]) h1
  have e : (cur.toList.take (0 + 0) ++ (bytesC s).toList ++ cur.toList.drop (0 + 0 + (bytesC s).toList.length)).toArray = bytesC s := by
    have : cur.toList.drop (0 + 0 + (bytesC s).toList.length) = [] := by
      rw [List.drop_eq_nil_iff]; simp [bytesC_size, hcur]
    rw [this]; simp
  cases hq : P.info? elem with
  | none => simp [hq] at hsz
  | some i =>
    have hi : i.size = 1 := by simpa [hq] using hsz
    rw [e] at hst
    have hx : List.take s.size (List.map (fun b : UInt8 => Value.int .u8 (b.toNat : Int)) s.data.toList) = (bytesC s).toList := by
      rw [List.take_of_length_le (by simp)]
      simp [bytesC]
    unfold Builtin.copy_
    simp [run_underlying hu w, Builtin.lenOf, Builtin.firstCells, sizeOf, typeInfo, hq]
    rw [hx, hst]
    rfl
theorem cp_text (hgd : o.guard = none) (d s : Operand) (dT sT : TypeId) (ho : o.op = .call { callee := .builtin .copy, args := #[d, s], argTypes := #[dT, sT] }) (elem : TypeId) (hu : P.underlying dT = some (.slice elem)) (hsz : (P.info? elem).map (·.size) = some 1)
    (b : Nat) (t : TypeId) (cur : Array Value) (hA : At w b t cur) (cap : Nat) (x : ByteArray) (hd : a.eval d = .slice (some ⟨b, 0, none⟩) x.size cap) (hs : a.eval s = .string x) (hcur : cur.size = x.size)
    (h : ∀ w', At w' b t (bytesC x) → w.grownBy w' (some b) → wpList P ops Q rest (a.put o.dst (goInt x.size)) w') : wpList P ops Q (o :: rest) a w := by
  refine wpList_plain hgd fun K hK => ?_
  have hrun := run_copy_text (P := P) dT sT o.type elem hu hsz b t cur hA cap x hcur
  unfold Oper.wp
  simp [execOp, ho, resolve, invoke, builtin, hd, hs, hrun, Result.andThen]
  exact hK _ _ (h _ (At.setRow hA _) (grown_setRow _ _ _))
end
end Go.PM
namespace Go.PM
open Go.RowKit
def nmS : Nat → UInt8 := fun q => cellsL.getD q 0
theorem bytes_nmS : bytesC cellsB = stC nmS := by simp [bytesC, cellsB, stC, nmS, cellsL]
def wspS (f g : Nat → UInt8) : Nat → UInt8 := fun q => if q < 9 then f q else g q
end Go.PM
namespace Go.Proofs.Ytogkodjlbdlgjaa
open Go.RowKit Go.PM

set_option maxRecDepth 100000 in
set_option maxHeartbeats 800000 in
theorem stateOfNames_c (w : World) : Calls Try.prog 66 #[] w fun e w' => e = .returned (stV nmS) ∧ Below w.heap.size w w' := by
  have HR : ∀ (tmps : Array Value) (W : World) (g : Nat → UInt8) (b : Nat), At W b 80 (stC g) → tmps.getD 0 undef = .pointer (some ⟨b, 0, none⟩) →
      (results Try.f66 tmps).run Try.prog W = .ok (stV g) W := fun tmps W g b hA h4 =>
    results_row1 Try.results66 tmps W _ _ _ h4 hA 11 5 Try.underlying80 (by kernel_rfl)
  have hA0 : At ((w.alloc (.cells zSA 80)).alloc (.cells zSA 80)) w.heap.size 80 zSA := (At.new _ _ _).alloc _
  have hA1 : At ((w.alloc (.cells zSA 80)).alloc (.cells zSA 80)) (w.heap.size + 1) 80 zSA := by
    have := At.new (w.alloc (.cells zSA 80)) 80 zSA
    rwa [World.size_alloc] at this
  go_enter Try.func66, Try.ntmps66
  go_wp2_with (first | (refine cp_text rfl (.tmp 2) (.const (.string ⟨#[97, 98, 99, 100, 101, 102, 65, 66, 67, 116, 117]⟩)) 22 9 rfl 5 Try.underlying22 (by kernel_rfl) (w.heap.size + 1) 80 zSA hA1 11 ⟨#[97, 98, 99, 100, 101, 102, 65, 66, 67, 116, 117]⟩ (by rfl) (by rfl) rfl ?_; intro W1 hB1 hg1; rw [show bytesC ⟨#[97, 98, 99, 100, 101, 102, 65, 66, 67, 116, 117]⟩ = stC nmS from bytes_nmS] at hB1; have hB0 := hA0.grown hg1 (by simp); have bel1 : Below w.heap.size w W1 := Below.trans (by (repeat' (first | (with_reducible exact Below.refl _ _) | (with_reducible assumption) | (with_reducible refine Below.alloc ?_ ?_ _) | (with_reducible refine Below.drew ?_) | (with_reducible refine Below.setCell ?_ ?_ _) | (with_reducible exact Nat.le_refl _) | omega | ((repeat (first | rewrite [World.size_alloc] | rewrite [World.size_setCell] | rewrite [World.size_drew])); omega) | (simp; omega) | (simp; done)))) (below_grown hg1 (by simp; omega) (fun g hg => by cases hg; omega)); have hs1 := bel1.size) | (refine ld_row rfl 80 (.tmp 1) rfl (w.heap.size + 1) 80 (stC nmS) hB1 (by rfl) 11 5 Try.underlying80 (by kernel_rfl) ?_) | (refine st_row rfl 80 (.tmp 0) (.tmp 4) rfl rfl w.heap.size 80 zSA (stC nmS) hB0 (by rfl) (by rfl) (by kernel_rfl) rfl (stC_one _) ?_; intro W5 hA5 hg5))
  exact bodyPost_ret (v := stV nmS) (HR _ _ nmS w.heap.size hA5 rfl) rfl ⟨rfl, bel1.trans (below_grown hg5 hs1 (fun g hg => by cases hg; omega))⟩
end Go.Proofs.Ytogkodjlbdlgjaa
namespace Go.Proofs.Ytogkodjlbdlgjaa
open Go.RowKit Go.PM

abbrev fnA : Array Value := #[.func (.func 109) #[] #[], .func (.func 110) #[] #[]]
set_option maxRecDepth 100000 in
set_option maxHeartbeats 1600000 in
theorem inOrder_c (xs : List St) (hv : ∀ k (hk : k < xs.length), stOk xs[k] = true) (v : Value) (f : Nat → UInt8) (w : World) (hx : RdS w v xs) :
    Calls Try.prog 67 #[stV f, v] w fun e w' => e = .returned (stV (runS xs xs.length f)) ∧ Below w.heap.size w w' := by
  have HR : ∀ (tmps : Array Value) (W : World) (g : Nat → UInt8) (b : Nat), At W b 80 (stC g) → tmps.getD 4 undef = .pointer (some ⟨b, 0, none⟩) →
      (results Try.f67 tmps).run Try.prog W = .ok (stV g) W := fun tmps W g b hA h4 =>
    results_row1 Try.results67 tmps W _ _ _ h4 hA 11 5 Try.underlying80 (by kernel_rfl)
  obtain ⟨A, cap, rfl, hn, hc, hcell⟩ := hx.open
  have HV := Lib.hid hv
  clear hv
  have HRS := Lib.hid (fun k hk => runS_succ xs k hk f)
  have HZ := Lib.hid (runS_zero xs f)
  go_enter Try.func67, Try.ntmps67
  go_wp2
  have hw0 : ∃ W0 : World, W0 = ((w.alloc (.cells (stC f) 80)).alloc (.cells zSA 80)).alloc (.cells fnA 132) := ⟨_, rfl⟩
  obtain ⟨W0, hW0⟩ := hw0
  have hB0 : Below w.heap.size w W0 := by rw [hW0]; (repeat' (first | (with_reducible exact Below.refl _ _) | (with_reducible assumption) | (with_reducible refine Below.alloc ?_ ?_ _) | (with_reducible refine Below.drew ?_) | (with_reducible refine Below.setCell ?_ ?_ _) | (with_reducible exact Nat.le_refl _) | omega | ((repeat (first | rewrite [World.size_alloc] | rewrite [World.size_setCell] | rewrite [World.size_drew])); omega) | (simp; omega) | (simp; done)))
  have hA0 : At W0 w.heap.size 80 (stC f) := by rw [hW0]; exact ((At.new _ _ _).alloc _).alloc _
  have hA1 : At W0 (w.heap.size + 1) 80 zSA := by
    rw [hW0]; have := At.new (w.alloc (.cells (stC f) 80)) 80 zSA
    rw [World.size_alloc] at this; exact this.alloc _
  have hA2 : At W0 (w.heap.size + 1 + 1) 132 fnA := by
    rw [hW0]; have := At.new ((w.alloc (.cells (stC f) 80)).alloc (.cells zSA 80)) 132 fnA
    rwa [World.size_alloc, World.size_alloc] at this
  rw [← hW0]
  clear hW0
  go_loopw [7, 11] (fun _ i wr => ∃ (k : Nat), k ≤ xs.length ∧ i = .int .i64 k ∧ Below w.heap.size w wr ∧ At wr w.heap.size 80 (stC (runS xs k f)) ∧ At wr (w.heap.size + 1) 80 zSA ∧ At wr (w.heap.size + 1 + 1) 132 fnA) (fun _ i _ => xs.length - (intOf i).toNat)
  case atStart => exact ⟨0, by omega, rfl, hB0, by rw [HZ.out]; exact hA0, hA1, hA2⟩
  case round =>
    clear hB0 hA0 hA1 hA2
    obtain ⟨k, hk, rfl, hb, hA0, hA1, hA2⟩ := hrel
    have hbs := hb.size
    by_cases hlt : k < xs.length
    · obtain ⟨b, off, rfl, hbl, hc1, hc2, hc3⟩ := hcell k hlt
      have hd1 := (hb.cell (p := ⟨b, off + k * 3, none⟩) hbl).trans hc1
      have hd2 := (hb.cell (p := ⟨b, off + k * 3 + 1, none⟩) hbl).trans hc2
      have hd3 := (hb.cell (p := ⟨b, off + k * 3 + 2, none⟩) hbl).trans hc3
      have hok : stOk (xs[k].1, xs[k].2.1, xs[k].2.2) = true := HV.out k hlt
      have hrs : runS xs (k + 1) f = doS (xs[k].1, xs[k].2.1, xs[k].2.2) (runS xs k f) := HRS.out k hlt
      clear hc1 hc2 hc3 hcell
      generalize xs[k].1 = x1 at *
      generalize xs[k].2.1 = x2 at *
      generalize xs[k].2.2 = x3 at *
      generalize runS xs k f = g at *
      have HRK := Lib.hid hrs
      clear hrs
      have l1 := hA1.lt
      have l2 := hA2.lt
      rcases stOk_kind hok with rfl | rfl
      · obtain ⟨o1, o2⟩ := stOk_move hok
        have hcall := fun W => moved_c g 0 x2 x3 o1 o2 W
        have HD : Hid (doS (0, x2, x3) g = updS g (cidx x2) (rdS g x3)) := rfl
        generalize updS g (cidx x2) (rdS g x3) = g2 at *
        clear hok o1 o2
        go_wp2
        obtain ⟨W1, hW1⟩ : ∃ W1 : World, W1 = (wr.alloc (.cells #[.int .i64 0, .string x2, .string x3] 67)).drew := ⟨_, rfl⟩
        have e0 : At W1 w.heap.size 80 (stC g) := by rw [hW1]; exact hA0.alloc _
        have e1 : At W1 (w.heap.size + 1) 80 zSA := by rw [hW1]; exact hA1.alloc _
        have e2 : At W1 (w.heap.size + 1 + 1) 132 fnA := by rw [hW1]; exact hA2.alloc _
        have e3 : At W1 wr.heap.size 67 #[.int .i64 0, .string x2, .string x3] := by rw [hW1]; exact At.new wr _ _
        have e4 : Below w.heap.size w W1 := by rw [hW1]; exact (hb.alloc hbs _).drew
        refine region_tail (C := fun w' => w' = W1) 6 (by kernel_rfl) (by kernel_rfl) hW1.symm ?_
        clear hW1
        simp only [List.take_succ_cons, List.take_zero, List.drop_succ_cons, List.drop_zero]
        clear hA0 hA1 hA2 hb hbs
        have q0 : W1.cell? ⟨wr.heap.size, 0, none⟩ = some (.int .i64 0) := e3.cell 0
        have q1 : W1.cell? ⟨wr.heap.size, 1, none⟩ = some (.string x2) := e3.cell 1
        have q2 : W1.cell? ⟨wr.heap.size, 2, none⟩ = some (.string x3) := e3.cell 2
        have q3 : W1.cell? ⟨w.heap.size + 1 + 1, 0, none⟩ = some (.func (.func 109) #[] #[]) := e2.cell 0
        go_big_quiet_step (fail)
        go_big_quiet_step (fail)
        go_big_quiet_step (fail)
        go_big_quiet_step (fail)
        refine row_step rfl 80 (.tmp 2) rfl w.heap.size 80 (stC g) (by rfl) (by rintro W rfl; exact e0) 11 5 Try.underlying80 (by kernel_rfl) ?_
        simp only [Act.put, List.setIfInBounds_toArray, List.set_cons_succ, List.set_cons_zero]
        go_big_quiet_step (fail)
        refine wpQuiet_nil ?_
        intro w' hw'
        subst hw'
        go_wp2_with fail
        refine (hcall _).mono ?_
        rintro e W2 ⟨rfl, hb2⟩
        have k0 := e0.keep hb2
        have k1 := e1.keep hb2
        have k2 := e2.keep hb2
        have k4 := e4.trans (hb2.mono e4.size)
        have k5 := k4.size
        go_wp2_with (refine st_row rfl 80 (.tmp 2) (.tmp 21) rfl rfl w.heap.size 80 (stC g) (stC g2) k0 (by rfl) (by rfl) (by kernel_rfl) rfl (stC_one _) ?_; intro W5 hA5 hg5)
        go_roundw
        case rel => exact ⟨k + 1, by omega, by go_num, k4.trans (below_grown hg5 k5 (fun g hg => by cases hg; omega)), by rw [HRK.out, HD.out]; exact hA5, k1.grown hg5 (by simp), k2.grown hg5 (by simp; omega)⟩
        case measure => simp [intOf]; omega
      · obtain ⟨o1, o2⟩ := stOk_swap hok
        have hcall := fun W => swapped_c g 1 x2 x3 o1 o2 W
        have HD : Hid (doS (1, x2, x3) g = swS g (cidx x2) (cidx x3)) := rfl
        generalize swS g (cidx x2) (cidx x3) = g2 at *
        clear hok o1 o2
        go_wp2
        obtain ⟨W1, hW1⟩ : ∃ W1 : World, W1 = (wr.alloc (.cells #[.int .i64 1, .string x2, .string x3] 67)).drew := ⟨_, rfl⟩
        have e0 : At W1 w.heap.size 80 (stC g) := by rw [hW1]; exact hA0.alloc _
        have e1 : At W1 (w.heap.size + 1) 80 zSA := by rw [hW1]; exact hA1.alloc _
        have e2 : At W1 (w.heap.size + 1 + 1) 132 fnA := by rw [hW1]; exact hA2.alloc _
        have e3 : At W1 wr.heap.size 67 #[.int .i64 1, .string x2, .string x3] := by rw [hW1]; exact At.new wr _ _
        have e4 : Below w.heap.size w W1 := by rw [hW1]; exact (hb.alloc hbs _).drew
        refine region_tail (C := fun w' => w' = W1) 6 (by kernel_rfl) (by kernel_rfl) hW1.symm ?_
        clear hW1
        simp only [List.take_succ_cons, List.take_zero, List.drop_succ_cons, List.drop_zero]
        clear hA0 hA1 hA2 hb hbs
        have q0 : W1.cell? ⟨wr.heap.size, 0, none⟩ = some (.int .i64 1) := e3.cell 0
        have q1 : W1.cell? ⟨wr.heap.size, 1, none⟩ = some (.string x2) := e3.cell 1
        have q2 : W1.cell? ⟨wr.heap.size, 2, none⟩ = some (.string x3) := e3.cell 2
        have q3 : W1.cell? ⟨w.heap.size + 1 + 1, 1, none⟩ = some (.func (.func 110) #[] #[]) := e2.cell 1
        go_big_quiet_step (fail)
        go_big_quiet_step (fail)
        go_big_quiet_step (fail)
        go_big_quiet_step (fail)
        refine row_step rfl 80 (.tmp 2) rfl w.heap.size 80 (stC g) (by rfl) (by rintro W rfl; exact e0) 11 5 Try.underlying80 (by kernel_rfl) ?_
        simp only [Act.put, List.setIfInBounds_toArray, List.set_cons_succ, List.set_cons_zero]
        go_big_quiet_step (fail)
        refine wpQuiet_nil ?_
        intro w' hw'
        subst hw'
        go_wp2_with fail
        refine (hcall _).mono ?_
        rintro e W2 ⟨rfl, hb2⟩
        have k0 := e0.keep hb2
        have k1 := e1.keep hb2
        have k2 := e2.keep hb2
        have k4 := e4.trans (hb2.mono e4.size)
        have k5 := k4.size
        go_wp2_with (refine st_row rfl 80 (.tmp 2) (.tmp 21) rfl rfl w.heap.size 80 (stC g) (stC g2) k0 (by rfl) (by rfl) (by kernel_rfl) rfl (stC_one _) ?_; intro W5 hA5 hg5)
        go_roundw
        case rel => exact ⟨k + 1, by omega, by go_num, k4.trans (below_grown hg5 k5 (fun g hg => by cases hg; omega)), by rw [HRK.out, HD.out]; exact hA5, k1.grown hg5 (by simp), k2.grown hg5 (by simp; omega)⟩
        case measure => simp [intOf]; omega
    · have hk' : k = xs.length := by omega
      have hA3 : At wr w.heap.size 80 (stC (runS xs xs.length f)) := by rw [← hk']; exact hA0
      clear hA0
      generalize hg : runS xs xs.length f = g at *
      have HG := Lib.hid hg
      clear hg
      go_wp2_with (first | (refine ld_row rfl 80 (.tmp 2) rfl w.heap.size 80 (stC g) hA3 (by rfl) 11 5 Try.underlying80 (by kernel_rfl) ?_) | (refine st_row rfl 80 (.tmp 4) (.tmp 23) rfl rfl (w.heap.size + 1) 80 zSA (stC g) hA1 (by rfl) (by rfl) (by kernel_rfl) rfl (stC_one _) ?_; intro W5 hA5 hg5))
      exact bodyPost_ret (v := stV g) (HR _ _ g (w.heap.size + 1) hA5 rfl) rfl ⟨by rw [HG.out], hb.trans (below_grown hg5 hbs (fun g hg => by cases hg; omega))⟩
end Go.Proofs.Ytogkodjlbdlgjaa
namespace Go.PM
open Go.RowKit
def aoP (t : Nat → ByteArray) (f : Nat → UInt8) (n : Nat) : Nat → UInt8 := fun q => if q < n then rdS f (srcT t q) else f q
theorem aoP_zero (t : Nat → ByteArray) (f : Nat → UInt8) : aoP t f 0 = f := by funext q; simp [aoP]
theorem aoP_nine (t : Nat → ByteArray) (f : Nat → UInt8) : aoP t f 9 = aoS t f := rfl
theorem aoP_succ (t : Nat → ByteArray) (f : Nat → UInt8) (p : Nat) : updS (aoP t f p) p (rdS f (srcT t p)) = aoP t f (p + 1) := by
  funext q
  unfold updS aoP
  by_cases h : q = p
  · subst h; simp
  · by_cases h2 : q < p
    · simp [h, h2, Nat.lt_succ_of_lt h2]
    · have : ¬ q < p + 1 := by omega
      simp [h, h2, this]
end Go.PM
namespace Go.Proofs.Ytogkodjlbdlgjaa
open Go.RowKit Go.PM
attribute [local go_sem] Oper.semAt_some

end Go.Proofs.Ytogkodjlbdlgjaa
namespace Go.PM
open Go.RowKit
theorem src_okC {xs : List Mv} (h : MV xs) : ∀ p, p < 9 → okC (srcT (tabOf xs) p) = true := by
  intro p hp
  rw [srcM_nm h hp]
  unfold srcM
  cases hf : xs.find? (fun m => decide (m.1 = nm p)) with
  | none =>
    show okC (nm p) = true
    unfold okC; rw [(cidx_nm hp).1]; rfl
  | some m =>
    have hm := List.mem_of_find?_eq_some hf
    have h1 := h.1 m hm
    unfold mok at h1; rw [Bool.and_eq_true] at h1
    exact isS_okC h1.2
def aoB (xs : List Mv) (s : ByteArray) : ByteArray := okS (mvalid xs && stateV s) (stB (aoS (tabOf xs) (ofB s)))
def ioB (xs : List St) (s : ByteArray) : ByteArray := okS (svalid xs && stateV s) (stB (runS xs xs.length (ofB s)))
theorem okS_yes (s : ByteArray) : okS true s = s := rfl
theorem okS_no (s : ByteArray) : okS false s = ⟨#[]⟩ := rfl
end Go.PM
namespace Go.Proofs.Ytogkodjlbdlgjaa
open Go.RowKit Go.PM

end Go.Proofs.Ytogkodjlbdlgjaa
namespace Go.Proofs.Ytogkodjlbdlgjaa
open Go.RowKit Go.PM

end Go.Proofs.Ytogkodjlbdlgjaa
namespace Go.PM
def sameAt (xs ys : List Mv) (p : Nat) : Bool := decide (srcM xs (nm p) = srcM ys (nm p))
def sameM (xs ys : List Mv) : Bool := mvalid xs && mvalid ys && (List.range 9).all (sameAt xs ys)
theorem sameM_no {xs ys : List Mv} (k : Nat) (hk : k < 9) (h : sameAt xs ys k = false) : sameM xs ys = false := by
  have : (List.range 9).all (sameAt xs ys) = false := by
    rw [List.all_eq_false]
    exact ⟨k, by simpa using hk, by rw [h]; decide⟩
  rw [sameM, this, Bool.and_false]
theorem sameM_all {xs ys : List Mv} (h : ∀ p, p < 9 → sameAt xs ys p = true) : sameM xs ys = (mvalid xs && mvalid ys) := by
  have : (List.range 9).all (sameAt xs ys) = true := by
    rw [List.all_eq_true]
    intro p hp
    exact h p (by simpa using hp)
  rw [sameM, this, Bool.and_true]
end Go.PM
namespace Go.Proofs.Ytogkodjlbdlgjaa
open Go.RowKit Go.PM

end Go.Proofs.Ytogkodjlbdlgjaa
namespace Go.PM
open Go.RowKit
/-- the moves that give each place its value in a state -/
def effA (g : Nat → UInt8) (p : Nat) : Mv := (nm p, ⟨#[g p]⟩)
def effL (g : Nat → UInt8) (k : Nat) : List Mv := (List.range k).map (effA g)
theorem effL_succ (g : Nat → UInt8) (k : Nat) : effL g (k + 1) = effL g k ++ [effA g k] := by simp [effL, List.range_succ]
theorem effL_len (g : Nat → UInt8) (k : Nat) : (effL g k).length = k := by simp [effL]
theorem effL_at (g : Nat → UInt8) (n k : Nat) (h : k < (effL g n).length) : (effL g n)[k] = effA g k := by simp [effL]
theorem effL_take (g : Nat → UInt8) (n k : Nat) (h : k ≤ n) : (effL g n).take k = effL g k := by
  simp only [effL, ← List.map_take, List.take_range]
  rw [Nat.min_eq_left h]
theorem nms_nodup : ((List.range 9).map nm).Nodup := by decide +kernel
theorem effL_MV (g : Nat → UInt8) : MV (effL g 9) ↔ ∀ p, p < 9 → isS ⟨#[g p]⟩ = true := by
  constructor
  · intro h p hp
    have := h.1 (effA g p) (List.mem_map.2 ⟨p, by simpa using hp, rfl⟩)
    unfold mok at this; rw [Bool.and_eq_true] at this
    exact this.2
  · intro h
    refine ⟨fun m hm => ?_, ?_⟩
    · obtain ⟨p, hp, rfl⟩ := List.mem_map.1 hm
      have hp9 : p < 9 := by simpa using hp
      unfold mok effA
      rw [isP_nm hp9, h p hp9]; rfl
    · have : (effL g 9).map (·.1) = (List.range 9).map nm := by simp [effL, effA]
      rw [this]; exact nms_nodup
def effG (xs : List St) : Nat → UInt8 := runS xs xs.length nmS'
where nmS' : Nat → UInt8 := fun q => cellsL.getD q 0
def effOk (xs : List St) : Bool := svalid xs && mvalid (effL (effG xs) 9)
def effM (xs : List St) : List Mv := if effOk xs then busyM (effL (effG xs) 9) else []
theorem effM_yes {xs : List St} (h : effOk xs = true) : effM xs = busyM (effL (effG xs) 9) := if_pos h
theorem effM_no {xs : List St} (h : effOk xs = false) : effM xs = [] := if_neg (by rw [h]; decide)
theorem effOk_no {xs : List St} (p : Nat) (hp : p < 9) (h : isS ⟨#[effG xs p]⟩ = false) : effOk xs = false := by
  have : mvalid (effL (effG xs) 9) = false := by
    simp only [mvalid, decide_eq_false_iff_not, effL_MV]
    intro h2
    rw [h2 p hp] at h; cases h
  rw [effOk, this, Bool.and_false]
theorem effOk_yes {xs : List St} (hv : svalid xs = true) (h : ∀ p, p < 9 → isS ⟨#[effG xs p]⟩ = true) : effOk xs = true := by
  have : mvalid (effL (effG xs) 9) = true := by
    simp only [mvalid, decide_eq_true_eq, effL_MV]; exact h
  rw [effOk, this, hv]; rfl
theorem busyE_zero (g : Nat → UInt8) : busyM (effL g 0) = [] := rfl
theorem busyE_succ (g : Nat → UInt8) (k : Nat) : busyM (effL g (k + 1)) = if (⟨#[g k]⟩ : ByteArray) = nm k then busyM (effL g k) else busyM (effL g k) ++ [effA g k] := by
  unfold busyM
  rw [effL_succ, List.filter_append]
  by_cases h : (⟨#[g k]⟩ : ByteArray) = nm k
  · simp [effA, h]
  · have : ¬ nm k = (⟨#[g k]⟩ : ByteArray) := fun e => h e.symm
    simp [effA, h, this]
theorem busyE_le (g : Nat → UInt8) (k : Nat) : (busyM (effL g k)).length ≤ k := by
  have := busyM_le (effL g k)
  rw [effL_len] at this; exact this
theorem stB_names : stB (fun q => cellsL.getD q 0) = cellsB := rfl
end Go.PM
namespace Go.Proofs.Ytogkodjlbdlgjaa
open Go.RowKit Go.PM

end Go.Proofs.Ytogkodjlbdlgjaa
namespace Go.PM
open Go.RowKit
theorem srcM_nil (a : ByteArray) : srcM [] a = a := rfl
theorem srcM_cons (m : Mv) (xs : List Mv) (a : ByteArray) : srcM (m :: xs) a = if m.1 = a then m.2 else srcM xs a := by
  unfold srcM
  rw [List.find?_cons]
  by_cases h : m.1 = a <;> simp [h]
theorem srcM_none {xs : List Mv} {a : ByteArray} (h : a ∉ xs.map (·.1)) : srcM xs a = a := by
  unfold srcM
  have : xs.find? (fun m => decide (m.1 = a)) = none := by
    rw [List.find?_eq_none]
    intro m hm e
    exact h (List.mem_map.2 ⟨m, hm, by simpa using e⟩)
  rw [this]; rfl
theorem srcM_busy : ∀ (xs : List Mv) (a : ByteArray), (xs.map (·.1)).Nodup → srcM (busyM xs) a = srcM xs a
  | [], _, _ => rfl
  | m :: xs, a, h => by
    rw [List.map_cons, List.nodup_cons] at h
    have ih := srcM_busy xs a h.2
    by_cases he : m.1 = m.2
    · have e : busyM (m :: xs) = busyM xs := by simp [busyM, he]
      rw [e, ih, srcM_cons]
      by_cases hm : m.1 = a
      · rw [if_pos hm, ← he, hm]
        exact srcM_none (by rw [← hm]; exact h.1)
      · rw [if_neg hm]
    · have e : busyM (m :: xs) = m :: busyM xs := by simp [busyM, he]
      rw [e, srcM_cons, srcM_cons, ih]
theorem busyM_MV {xs : List Mv} (h : MV xs) : MV (busyM xs) :=
  ⟨fun m hm => h.1 m (List.mem_filter.1 hm).1, h.2.sublist (List.Sublist.map _ (List.filter_sublist ..))⟩
theorem find_nm : ∀ p, p < 9 → (List.range 9).find? (fun q => decide (nm q = nm p)) = some p := by
  intro p hp
  match p, hp with
  | 0, _ | 1, _ | 2, _ | 3, _ | 4, _ | 5, _ | 6, _ | 7, _ | 8, _ => decide +kernel
theorem srcM_effL (g : Nat → UInt8) (p : Nat) (hp : p < 9) : srcM (effL g 9) (nm p) = ⟨#[g p]⟩ := by
  unfold srcM effL
  rw [List.find?_map]
  have e : ((fun m : Mv => decide (m.1 = nm p)) ∘ effA g) = fun q => decide (nm q = nm p) := rfl
  rw [e, find_nm p hp]; rfl
def nmT : Nat → UInt8 := fun q => cellsL.getD q 0
theorem rd_name {a : ByteArray} (h : isS a = true) : (⟨#[rdS nmT a]⟩ : ByteArray) = a := by
  rcases Bool.eq_false_or_eq_true (isC a) with hc | hc
  · rw [rdS_cell hc]
    obtain ⟨c, rfl⟩ := one_of_size (isC_size hc)
    have h2 : c ∈ cellsL := by simpa [isC] using hc
    show (⟨#[cellsL.getD (cidx ⟨#[c]⟩) 0]⟩ : ByteArray) = _
    rw [(cidx_one h2).2.2]
  · rw [rdS_digit hc]; exact (fc_one (isS_size h)).symm
theorem srcM_isSr {xs : List Mv} (h : MV xs) (p : Nat) (hp : p < 9) : isS (srcM xs (nm p)) = true := by
  unfold srcM
  cases hf : xs.find? (fun m => decide (m.1 = nm p)) with
  | none => show isS (nm p) = true; unfold isS; rw [isP_nm hp]; rfl
  | some m =>
    have h1 := h.1 m (List.mem_of_find?_eq_some hf)
    unfold mok at h1; rw [Bool.and_eq_true] at h1
    exact h1.2
def irB (xs : List St) (ys : List Mv) : Bool := effOk xs && sameM (effM xs) ys
theorem one_inj {a b : UInt8} : (⟨#[a]⟩ : ByteArray) = ⟨#[b]⟩ ↔ a = b := by
  constructor
  · intro h
    have := congrArg (fun s : ByteArray => s.data.toList) h
    simpa using this
  · intro h; rw [h]
theorem irB_eq (xs : List St) (ys : List Mv) (h1 : svalid xs = true) (h2 : MV ys) :
    ((List.range 11).all fun p => decide ((if p < 9 then effG xs p else nmT p) = aoS (tabOf ys) nmT p)) = irB xs ys := by
  have m2 : mvalid ys = true := by simpa [mvalid] using h2
  have key : ∀ p, p < 9 → (effG xs p = aoS (tabOf ys) nmT p ↔ (⟨#[effG xs p]⟩ : ByteArray) = srcM ys (nm p)) := fun p hp => by
    unfold aoS
    rw [if_pos hp, srcM_nm h2 hp, ← one_inj, rd_name (srcM_isSr h2 p hp)]
  have e11 : ∀ P : Nat → Prop, (∀ p, p < 11 → P p) ↔ ((∀ p, p < 9 → P p) ∧ P 9 ∧ P 10) := fun P => by
    constructor
    · intro h; exact ⟨fun p hp => h p (by omega), h 9 (by omega), h 10 (by omega)⟩
    · rintro ⟨h, h9, h10⟩ p hp
      by_cases hp9 : p < 9
      · exact h p hp9
      · have : p = 9 ∨ p = 10 := by omega
        rcases this with rfl | rfl
        · exact h9
        · exact h10
  rw [Bool.eq_iff_iff, List.all_eq_true]
  have hl : (∀ p ∈ List.range 11, decide ((if p < 9 then effG xs p else nmT p) = aoS (tabOf ys) nmT p) = true) ↔ ∀ p, p < 9 → (⟨#[effG xs p]⟩ : ByteArray) = srcM ys (nm p) := by
    have : (∀ p ∈ List.range 11, decide ((if p < 9 then effG xs p else nmT p) = aoS (tabOf ys) nmT p) = true) ↔ ∀ p, p < 11 → (if p < 9 then effG xs p else nmT p) = aoS (tabOf ys) nmT p := by
      constructor
      · intro h p hp; simpa using h p (by simpa using hp)
      · intro h p hp; simpa using h p (by simpa using hp)
    rw [this, e11]
    constructor
    · rintro ⟨h, _, _⟩ p hp
      have := h p hp
      rw [if_pos hp] at this
      exact (key p hp).1 this
    · intro h
      refine ⟨fun p hp => ?_, ?_, ?_⟩
      · rw [if_pos hp]; exact (key p hp).2 (h p hp)
      · simp [aoS]
      · simp [aoS]
  rw [hl]
  unfold irB
  rcases Bool.eq_false_or_eq_true (effOk xs) with ho | ho
  · have hmv : MV (effL (effG xs) 9) := by
      unfold effOk at ho; rw [Bool.and_eq_true] at ho
      simpa [mvalid] using ho.2
    have m1 : mvalid (effM xs) = true := by rw [effM_yes ho]; simpa [mvalid] using busyM_MV hmv
    rw [ho, Bool.true_and, sameM, m1, m2, Bool.true_and, Bool.true_and, List.all_eq_true]
    have hk : ∀ p, p < 9 → srcM (effM xs) (nm p) = ⟨#[effG xs p]⟩ := fun p hp => by
      rw [effM_yes ho, srcM_busy _ _ hmv.2, srcM_effL _ p hp]
    constructor
    · intro h p hp
      have hp9 : p < 9 := by simpa using hp
      rw [sameAt, hk p hp9]; simpa using h p hp9
    · intro h p hp
      have := h p (by simpa using hp)
      rw [sameAt, hk p hp] at this; simpa using this
  · rw [ho, Bool.false_and]
    constructor
    · intro h
      have hmv : MV (effL (effG xs) 9) := (effL_MV _).2 fun p hp => by rw [h p hp]; exact srcM_isSr h2 p hp
      have : effOk xs = true := by rw [effOk, h1]; simpa [mvalid] using hmv
      rw [this] at ho; cases ho
    · intro h; cases h
end Go.PM
namespace Go.Proofs.Ytogkodjlbdlgjaa
open Go.RowKit Go.PM
attribute [local go_sem] Oper.semAt_some

theorem busyE_sizes (xs : List St) : (∀ m ∈ effM xs, m.1.size ≤ 9223372036854775807 ∧ m.2.size ≤ 9223372036854775807) ∧ (effM xs).length ≤ 9 := by
  rcases Bool.eq_false_or_eq_true (effOk xs) with h | h
  · rw [effM_yes h]
    refine ⟨fun m hm => ?_, busyE_le _ 9⟩
    have h2 := (List.mem_filter.1 hm).1
    obtain ⟨p, _, rfl⟩ := List.mem_map.1 h2
    exact ⟨by show (1 : Nat) ≤ _; omega, by show (1 : Nat) ≤ _; omega⟩
  · rw [effM_no h]
    exact ⟨by simp, by simp⟩

theorem eq_u8 (d : Nat) (a b : UInt8) (W : World) : (Op.equalIn (d + 1) 5 (.int .u8 a.toNat) (.int .u8 b.toNat)).run Try.prog W = .ok (decide (a = b)) W := by
  have : (((a.toNat : Int) == (b.toNat : Int))) = decide (a = b) := by
    rw [Bool.eq_iff_iff, beq_iff_eq, decide_eq_true_eq, ← UInt8.toNat_inj]; omega
  simp [Op.equalIn, go_sem, this]
theorem eqS_items (f g : Nat → UInt8) (W : World) : ∀ is : List Nat, (∀ i ∈ is, i < 11) → (Op.eqItems 9999 5 1 (stC f) (stC g) is).run Try.prog W = .ok (is.all fun p => decide (f p = g p)) W := by
  intro is
  induction is with
  | nil => intro _; rfl
  | cons i is ih =>
    intro h
    have hi := h i (List.mem_cons_self ..)
    have h1 : (part 5 (stC f) (i * 1)).run Try.prog W = .ok (.int .u8 (f i).toNat) W := run_part_plain (P := Try.prog) W (by kernel_rfl) (by rw [Nat.mul_one]; exact stC_at f i hi)
    have h2 : (part 5 (stC g) (i * 1)).run Try.prog W = .ok (.int .u8 (g i).toNat) W := run_part_plain (P := Try.prog) W (by kernel_rfl) (by rw [Nat.mul_one]; exact stC_at g i hi)
    have h3 := eq_u8 9998 (f i) (g i) W
    rw [Op.eqItems, Sem.run_bind, h1, Result.andThen_ok, Sem.run_bind, h2, Result.andThen_ok, Sem.run_bind, h3, Result.andThen_ok, List.all_cons]
    cases hb : decide (f i = g i)
    · rfl
    · rw [if_neg (by decide), ih (fun j hj => h j (List.mem_cons_of_mem _ hj)), Bool.true_and]
theorem eq_st (f g : Nat → UInt8) (W : World) : (Op.equalIn 10000 80 (stV f) (stV g)).run Try.prog W = .ok ((List.range 11).all fun p => decide (f p = g p)) W := by
  have his : (Try.prog.info? 5).isSome = true := by kernel_rfl
  obtain ⟨i, hi⟩ := Option.isSome_iff_exists.1 his
  have hc : Try.prog.cellsOf 5 = 1 := by kernel_rfl
  have h := run_equalIn_array (P := Try.prog) (w := W) 9999 (t := 80) (e := 5) (n := 11) (stC f) (stC g) Try.underlying80 hi
  rw [hc] at h
  exact h.trans (eqS_items f g W _ (fun i hi => by simpa using hi))

end Go.Proofs.Ytogkodjlbdlgjaa
namespace Go.PM
open Go.RowKit
def runM (ms : List Mv) (f : Nat → UInt8) : Nat → UInt8 := ms.foldl (fun g m => updS g (cidx m.1) (rdS g m.2)) f
theorem runM_cons (m : Mv) (ms : List Mv) (f : Nat → UInt8) : runM (m :: ms) f = runM ms (updS f (cidx m.1) (rdS f m.2)) := rfl
theorem runS_stL (ms : List Mv) (f : Nat → UInt8) : runS (stL ms) (stL ms).length f = runM ms f := by
  unfold runS runM stL
  rw [List.take_length, List.foldl_map]
  rfl
theorem spT_cell : isC spT = true ∧ cidx spT = 9 := by decide +kernel
/-- what a waiting move reads -/
def okR (a : ByteArray) : Prop := isP a = true ∨ isD a = true ∨ a = spT
theorem cidx_P {a : ByteArray} (h : isP a = true) : isC a = true ∧ cidx a < 9 ∧ nm (cidx a) = a := by
  have h1 := isP_isC h
  have h2 := pidx_spec h
  rw [h1.2]; exact ⟨h1.1, h2⟩
theorem rdS_ne {a b : ByteArray} (ha : okR a) (hb : isP b = true ∨ b = spT) (hne : a ≠ b) (f : Nat → UInt8) (v : UInt8) : rdS (updS f (cidx b) v) a = rdS f a := by
  have hc : isC a = true → cidx a ≠ cidx b := fun h e => by
    rcases ha with ha | ha | ha
    · rcases hb with hb | hb
      · have h1 := (cidx_P ha).2.2; have h2 := (cidx_P hb).2.2
        rw [e, h2] at h1; exact hne h1.symm
      · have h1 := (cidx_P ha).2.1
        rw [e, hb, spT_cell.2] at h1; omega
    · rw [isD_notC ha] at h; cases h
    · rcases hb with hb | hb
      · have h2 := (cidx_P hb).2.1
        rw [← e, ha, spT_cell.2] at h2; omega
      · exact hne (ha.trans hb.symm)
  unfold rdS
  rcases Bool.eq_false_or_eq_true (isC a) with h | h
  · rw [if_pos h, if_pos h, updS, if_neg (hc h)]
  · rw [if_neg (by rw [h]; decide), if_neg (by rw [h]; decide)]
theorem rdS_same {b : ByteArray} (hb : isP b = true ∨ b = spT) (f : Nat → UInt8) (v : UInt8) : rdS (updS f (cidx b) v) b = v := by
  have : isC b = true := by
    rcases hb with hb | hb
    · exact (cidx_P hb).1
    · rw [hb]; exact spT_cell.1
  rw [rdS_cell this, updS, if_pos rfl]
/-- each waiting move reads what its place is to get, and the other places have it -/
structure Due (T : Nat → UInt8) (ws : List Mv) (f : Nat → UInt8) : Prop where
  rd : ∀ m ∈ ws, rdS f m.2 = T (cidx m.1)
  has : ∀ p, p < 9 → nm p ∉ ws.map (·.1) → f p = T p
theorem Due.some_ {T : Nat → UInt8} {ws : List Mv} {f : Nat → UInt8} (h : Due T ws f) (hw : Wt ws) {i : Nat} (hi : i < ws.length) (hf : rdN ws ws[i].1 = 0) :
    Due T (redM ws[i] (ws.eraseIdx i)) (updS f (cidx ws[i].1) (rdS f ws[i].2)) := by
  have hm := List.getElem_mem hi
  have hp := hw.to_ _ hm
  have hz := rdN_zero.1 hf
  have key : ∀ x ∈ ws.eraseIdx i, rdS (updS f (cidx ws[i].1) (rdS f ws[i].2)) x.2 = T (cidx x.1) := fun x hx => by
    have hx1 := erase_mem hx
    rw [rdS_ne (hw.from_ x hx1) (.inl hp) (hz x hx1)]
    exact h.rd x hx1
  refine ⟨fun m' hm' => ?_, fun p hp9 hn => ?_⟩
  · unfold redM at hm'
    split at hm'
    · exact key m' hm'
    · obtain ⟨x, hx, e1, (⟨e2, e3⟩ | ⟨e2, e3⟩)⟩ := instM_mem hm'
      · rw [e3, rdS_same (.inl hp), e1, ← e2]
        exact h.rd x (erase_mem hx)
      · rw [e3]; exact key x hx
  · rw [redM_keys] at hn
    by_cases e : nm p = ws[i].1
    · have : cidx ws[i].1 = p := by rw [← e, (cidx_nm hp9).2]
      rw [this, updS, if_pos rfl, h.rd _ hm, this]
    · rw [updS, if_neg]
      · refine h.has p hp9 fun hk => ?_
        obtain ⟨x, hx, ex⟩ := List.mem_map.1 hk
        rcases erase_or hi hx with h1 | h1
        · exact e (by rw [← ex, h1])
        · exact hn (List.mem_map.2 ⟨x, h1, ex⟩)
      · intro e2
        exact e (by rw [e2]; exact (cidx_P hp).2.2)
theorem Due.none_ {T : Nat → UInt8} {ws : List Mv} {f : Nat → UInt8} (h : Due T ws f) (hw : Wt ws) (h0 : 0 < ws.length) (hn : aheadI ws = none) :
    Due T (redM (spT, ws[0].1) ws) (updS f (cidx spT) (rdS f ws[0].1)) := by
  obtain ⟨_, _, f3⟩ := hw.full hn
  have hz := rdN_zero.1 f3
  have hp := isP_cases (hw.to_ _ (List.getElem_mem h0))
  refine ⟨fun m' hm' => ?_, fun p hp9 hk => ?_⟩
  · unfold redM at hm'
    rw [if_neg (by show ¬ isD ws[0].1 = true; rw [hp.1]; decide)] at hm'
    obtain ⟨x, hx, e1, (⟨e2, e3⟩ | ⟨e2, e3⟩)⟩ := instM_mem hm'
    · rw [e3, rdS_same (.inr rfl), e1, ← h.rd x hx, e2]
    · rw [e3, rdS_ne (hw.from_ x hx) (.inr rfl) (hz x hx)]
      exact h.rd x hx
  · rw [redM_keys] at hk
    rw [updS, spT_cell.2, if_neg (by omega)]
    exact h.has p hp9 hk
theorem ordF_due {T : Nat → UInt8} : ∀ (n : Nat) (ws : List Mv) (f : Nat → UInt8), Wt ws → muW ws ≤ n → Due T ws f → ∀ p, p < 9 → runM (ordF n ws) f p = T p := by
  intro n
  induction n with
  | zero =>
    intro ws f _ hmu h p hp
    have : ws = [] := List.length_eq_zero_iff.1 (by unfold muW at hmu; omega)
    subst this
    exact h.has p hp (by simp)
  | succ n ih =>
    intro ws f hw hmu h p hp
    by_cases h0 : 0 < ws.length
    · cases ha : aheadI ws with
      | some i =>
        obtain ⟨hi, hf⟩ := aheadI_some ha
        rw [ordF_some hi ha, runM_cons]
        exact ih _ _ (hw.some_ hi hf) (by have := muW_some hi ws[i]; omega) (h.some_ hw hi hf) p hp
      | none =>
        rw [ordF_none h0 ha, runM_cons]
        exact ih _ _ (hw.none_ h0 ha).1 (by have := muW_none hw h0 ha; omega) (h.none_ hw h0 ha) p hp
    · have : ws = [] := List.length_eq_zero_iff.1 (by omega)
      subst this
      rw [ordF_nil]
      exact h.has p hp (by simp)
theorem ordF_ok : ∀ (n : Nat) (ws : List Mv), Wt ws → ∀ m ∈ ordF n ws, (isP m.1 = true ∨ m.1 = spT) ∧ okR m.2 := by
  intro n
  induction n with
  | zero => intro ws _ m hm; cases hm
  | succ n ih =>
    intro ws hw m hm
    by_cases h0 : 0 < ws.length
    · cases ha : aheadI ws with
      | some i =>
        obtain ⟨hi, hf⟩ := aheadI_some ha
        rw [ordF_some hi ha, List.mem_cons] at hm
        rcases hm with rfl | hm
        · exact ⟨.inl (hw.to_ _ (List.getElem_mem hi)), hw.from_ _ (List.getElem_mem hi)⟩
        · exact ih _ (hw.some_ hi hf) m hm
      | none =>
        rw [ordF_none h0 ha, List.mem_cons] at hm
        rcases hm with rfl | hm
        · exact ⟨.inr rfl, .inl (hw.to_ _ (List.getElem_mem h0))⟩
        · exact ih _ (hw.none_ h0 ha).1 m hm
    · have : ws = [] := List.length_eq_zero_iff.1 (by omega)
      subst this
      rw [ordF_nil] at hm; cases hm
theorem stOk_M {m : Mv} (h1 : isP m.1 = true ∨ m.1 = spT) (h2 : okR m.2) : stOk (stpM m) = true := by
  have a1 : isC m.1 = true := by
    rcases h1 with h | h
    · exact (cidx_P h).1
    · rw [h]; exact spT_cell.1
  have a2 : (isC m.2 || isD m.2) = true := by
    rcases h2 with h | h | h
    · rw [(cidx_P h).1]; rfl
    · rw [h, Bool.or_true]
    · rw [h]; decide +kernel
  unfold stOk stpM
  simp only [a1, a2]
  rfl
theorem svalid_stL {ms : List Mv} (hl : ms.length ≤ 60) (h : ∀ m ∈ ms, (isP m.1 = true ∨ m.1 = spT) ∧ okR m.2) : svalid (stL ms) = true := by
  unfold svalid
  rw [Bool.and_eq_true, decide_eq_true_eq, List.all_eq_true]
  refine ⟨by unfold stL; rw [List.length_map]; exact hl, fun x hx => ?_⟩
  obtain ⟨m, hm, rfl⟩ := List.mem_map.1 hx
  exact stOk_M (h m hm).1 (h m hm).2
/-- steps of moves that give each place its value are right -/
theorem right_of_run {ms xs : List Mv} (hv : svalid (stL ms) = true) (hx : MV xs) (h : ∀ p, p < 9 → runM ms nmT p = rdS nmT (srcM xs (nm p))) : irB (stL ms) xs = true := by
  rw [← irB_eq (stL ms) xs hv hx, List.all_eq_true]
  intro p hp
  rw [decide_eq_true_eq]
  by_cases h9 : p < 9
  · rw [if_pos h9, aoS, if_pos h9, srcM_nm hx h9]
    have := h p h9
    rw [← runS_stL] at this
    exact this
  · rw [if_neg h9, aoS, if_neg h9]
theorem busy_due {xs : List Mv} (_hx : MV xs) : Due (fun p => rdS nmT (srcM xs (nm p))) (busyF xs 9) nmT := by
  have hl : busyF xs 9 = lsF (fun p => srcM xs (nm p)) 9 := rfl
  refine ⟨fun m hm => ?_, fun p hp hn => ?_⟩
  · rw [hl] at hm
    obtain ⟨p, hp, _, rfl⟩ := lsF_mem hm
    show _ = rdS nmT (srcM xs (nm (cidx (nm p))))
    rw [(cidx_nm hp).2]
  · have : srcM xs (nm p) = nm p := by
      refine Classical.not_not.1 fun hne => hn ?_
      rw [hl]
      exact List.mem_map.2 ⟨(nm p, srcM xs (nm p)), List.mem_map.2 ⟨p, List.mem_filter.2 ⟨by simpa using hp, by simpa [lsH] using hne⟩, rfl⟩, rfl⟩
    show nmT p = rdS nmT (srcM xs (nm p))
    rw [this, rdS_nm nmT hp]
theorem busy_mu {xs : List Mv} : muW (busyF xs 9) ≤ 19 := by
  have := busyF_len xs 9
  unfold muW
  split <;> omega
theorem ordM_yes {xs : List Mv} (h : MV xs) : ordM xs = ordF 19 (busyF xs 9) := if_pos (by simpa [mvalid] using h)
theorem ordM_valid {xs : List Mv} (h : MV xs) : svalid (stL (ordM xs)) = true := by
  rw [ordM_yes h]
  exact svalid_stL (by have := ordF_len 19 (busyF xs 9); omega) (ordF_ok 19 _ (busyF_Wt h))
/-- the steps of an order do the moves -/
theorem ordM_right {xs : List Mv} (h : MV xs) : irB (stL (ordM xs)) xs = true := by
  refine right_of_run (ordM_valid h) h fun p hp => ?_
  rw [ordM_yes h]
  exact ordF_due 19 _ nmT (busyF_Wt h) busy_mu (busy_due h) p hp
end Go.PM
namespace Go.PD
open Go.PM Go.RowKit Go.Lib
theorem ordM_ok {xs : List Mv} (h : MV xs) : ∀ m ∈ ordM xs, (isP m.1 = true ∨ m.1 = spT) ∧ okR m.2 := by
  rw [ordM_yes h]; exact ordF_ok _ _ (busyF_Wt h)
theorem u_not {a : ByteArray} (h : okR a) : a ≠ spU := by
  intro e; subst e
  rcases h with h | h | h
  · revert h; decide
  · revert h; decide
  · revert h; decide
theorem ord_md {xs : List Mv} (h : mvalid xs = true) : mdB (stL (ordM xs)) = true := by
  have hx : MV xs := by simpa [mvalid] using h
  have hv := ordM_valid hx
  have hok := ordM_ok hx
  have hl : (ordM xs).length ≤ 19 := by rw [ordM_yes hx]; exact ordF_len _ _
  have hb : ∀ x ∈ stL (ordM xs), badX x = false := by
    intro x hxm
    unfold stL at hxm
    obtain ⟨m, hm, rfl⟩ := List.mem_map.1 hxm
    obtain ⟨h1, h2⟩ := hok m hm
    have e1 : m.1 ≠ spU := by
      rcases h1 with h1 | h1
      · exact u_not (.inl h1)
      · exact u_not (.inr (.inr h1))
    have e2 : m.2 ≠ spU := u_not h2
    unfold badX swF stpM
    simp [e1, e2]
  rw [md_good hb, hv, mkD_valid hv, Bool.true_and, decide_eq_true_eq]
  have := (mkD_len (stL (ordM xs))).2
  have e : (stL (ordM xs)).length = (ordM xs).length := by simp [stL]
  omega
def odS (xs : List Mv) : List St := if mvalid xs then mkD (stL (ordM xs)) else []
def cdI (xs : List Mv) : Int := if mvalid xs then ((odS xs).length : Int) else -1
theorem odS_yes {xs : List Mv} (h : mvalid xs = true) : odS xs = mkD (stL (ordM xs)) := if_pos h
theorem odS_no {xs : List Mv} (h : mvalid xs = false) : odS xs = [] := by unfold odS; rw [h]; rfl
theorem cdI_yes {xs : List Mv} (h : mvalid xs = true) : cdI xs = ((odS xs).length : Int) := if_pos h
theorem cdI_no {xs : List Mv} (h : mvalid xs = false) : cdI xs = -1 := by unfold cdI; rw [h]; rfl
theorem odS_len (xs : List Mv) : (odS xs).length ≤ 38 := by
  unfold odS
  split
  · next h =>
    have hx : MV xs := by simpa [mvalid] using h
    have hl : (ordM xs).length ≤ 19 := by rw [ordM_yes hx]; exact ordF_len _ _
    have := (mkD_len (stL (ordM xs))).2
    have e : (stL (ordM xs)).length = (ordM xs).length := by simp [stL]
    omega
  · simp
theorem od_md {xs : List Mv} (h : mvalid xs = true) : mdS (stL (ordM xs)) = odS xs := by rw [mdS_yes (ord_md h), odS_yes h]
end Go.PD
namespace Go.Proofs.Ytogkodjlbdlgjaa
open Go.RowKit Go.PM Go.PD Go.Lib

set_option maxRecDepth 100000 in
set_option maxHeartbeats 1600000 in
theorem imOrderDirect_c (xs : List Mv) (v : Value) (w : World) (hx : RdM w v xs) :
    Calls Try.prog 46 #[v] w fun e w' => ∃ v', e = .returned (.tuple #[v', .bool (mvalid xs)]) ∧ w'.ownsRow w.heap.size 67 3 v' (odS xs).length (scells (odS xs)) ∧ Below w.heap.size w w' := by
  have HO := Lib.hid (imOrderMoves_c xs v w hx)
  rcases Bool.eq_false_or_eq_true (mvalid xs) with h1 | h1
  · have HM := Lib.hid (ord_md h1)
    have HE := Lib.hid (od_md h1)
    have HL : Hid ((stL (ordM xs)).length = (ordM xs).length) := by show _ = _; simp [stL]
    have H1 := Lib.hid h1
    clear h1
    go_enter Try.func46, Try.ntmps46
    go_wp2_with fail
    refine HO.out.mono ?_
    rintro e w1 ⟨v1, rfl, ho, hb1⟩
    rw [H1.out]
    rw [← HL.out] at ho
    have hx1 : RdS w1 v1 (stL (ordM xs)) := Rd.of_own ho
    have HMD := Lib.hid (imMakeDirect_c (stL (ordM xs)) v1 w1 hx1)
    rw [HM.out, HE.out] at HMD
    have hs1 := hb1.size
    clear ho hx1
    go_wp2_with fail
    refine HMD.out.mono ?_
    rintro e w2 ⟨v2, rfl, ho2, hb2⟩
    have ho3 := own_more ho2 hs1
    have hb3 := hb1.trans (hb2.mono hs1)
    clear HMD ho2 hb2
    go_wp2
    go_ret2
    exact ⟨_, by rw [H1.out]; rfl, ho3, hb3⟩
  · have HE := Lib.hid (odS_no h1)
    have H1 := Lib.hid h1
    clear h1
    go_enter Try.func46, Try.ntmps46
    go_wp2_with fail
    refine HO.out.mono ?_
    rintro e w1 ⟨v1, rfl, ho, hb1⟩
    rw [H1.out]
    clear ho
    go_wp2
    go_ret2
    exact ⟨_, by rw [H1.out]; rfl, by rw [HE.out]; exact ⟨rfl, .inl ⟨rfl, rfl⟩⟩, hb1⟩
set_option maxHeartbeats 800000 in
theorem imCountDirect_c (xs : List Mv) (v : Value) (w : World) (hx : RdM w v xs) :
    Calls Try.prog 50 #[v] w fun e w' => e = .returned (.int .i64 (cdI xs)) ∧ Below w.heap.size w w' := by
  have HO := Lib.hid (imOrderDirect_c xs v w hx)
  have HY := Lib.hid (fun h => cdI_yes (xs := xs) h)
  have HN := Lib.hid (fun h => cdI_no (xs := xs) h)
  rcases Bool.eq_false_or_eq_true (mvalid xs) with h1 | h1
  all_goals
    have H1 := Lib.hid h1
    clear h1
    go_enter Try.func50, Try.ntmps50
    go_wp2_with fail
    refine HO.out.mono ?_
    rintro e w1 ⟨v1, rfl, ho, hb1⟩
    obtain ⟨A, cap, rfl, _⟩ := Rd.of_own ho
    rw [H1.out]
    clear ho
    go_wp2
    go_ret
    exact ⟨by first | (rw [HY.out H1.out]; rfl) | (rw [HN.out H1.out]; rfl), hb1⟩
end Go.Proofs.Ytogkodjlbdlgjaa
namespace Go.PM
open Go.RowKit
theorem rdN_take (xs : List Mv) (k : Nat) (hk : k < xs.length) (a : ByteArray) : rdN (xs.take (k + 1)) a = rdN (xs.take k) a + if xs[k].2 = a then 1 else 0 := by
  rw [take_snoc xs k hk]
  unfold rdN
  rw [List.map_append, List.count_append, List.map_cons, List.map_nil, List.count_cons]
  simp
theorem instM_take (a b : ByteArray) (xs : List Mv) (k : Nat) (hk : k < xs.length) : instM a b (xs.take (k + 1)) = instM a b (xs.take k) ++ [(xs[k].1, if xs[k].2 = a then b else xs[k].2)] := by
  rw [take_snoc xs k hk]
  unfold instM
  rw [List.map_append, List.map_cons, List.map_nil]
  by_cases h : xs[k].2 = a
  · rw [if_pos h, if_pos h]
  · rw [if_neg h, if_neg h]
def readB (xs : List Mv) (a : ByteArray) : Bool := decide (rdN xs a ≠ 0)
theorem readB_at {xs : List Mv} {k : Nat} (hk : k < xs.length) {a : ByteArray} (h : xs[k].2 = a) : readB xs a = true := by
  unfold readB
  rw [decide_eq_true_eq]
  intro e
  exact rdN_zero.1 e _ (List.getElem_mem hk) h
theorem readB_no {xs : List Mv} {a : ByteArray} (h : rdN xs a = 0) : readB xs a = false := by
  unfold readB; rw [decide_eq_false_iff_not]; exact fun e => e h
end Go.PM
namespace Go.Proofs.Ytogkodjlbdlgjaa
open Go.RowKit Go.PM
attribute [local go_sem] Oper.semAt_some

set_option maxRecDepth 100000 in
set_option maxHeartbeats 800000 in
theorem l5Read_c (xs : List Mv) (v : Value) (a : ByteArray) (w : World) (hx : RdM w v xs) :
    Calls Try.prog 154 #[v, .string a] w fun e w' => e = .returned (.bool (readB xs a)) ∧ Below w.heap.size w w' := by
  obtain ⟨A, cap, rfl, hn, hc, hcell⟩ := hx.open
  have HRN := Lib.hid (readB_no (xs := xs) (a := a))
  go_enter Try.func154, Try.ntmps154
  go_wp2
  go_loopw [6, 9] (fun _ i wr => ∃ (k : Nat), k ≤ xs.length ∧ i = .int .i64 k ∧ Hid (rdN (xs.take k) a = 0) ∧ Below w.heap.size w wr) (fun _ i _ => xs.length - (intOf i).toNat)
  case atStart => exact ⟨0, by omega, rfl, by show _ = _; simp [rdN], Below.refl _ _⟩
  case round =>
    obtain ⟨k, hk, rfl, hm, hb⟩ := hrel
    have hbs := hb.size
    by_cases hlt : k < xs.length
    · obtain ⟨b, off, rfl, hbl, hc1, hc2⟩ := hcell k hlt
      have hd1 := (hb.cell (p := ⟨b, off + k * 2, none⟩) hbl).trans hc1
      have hd2 := (hb.cell (p := ⟨b, off + k * 2 + 1, none⟩) hbl).trans hc2
      clear hc1 hc2 hcell
      have HR := Lib.hid (rdN_take xs k hlt a)
      have HY := Lib.hid (readB_at (xs := xs) (a := a) hlt)
      generalize xs[k].1 = x1 at *
      generalize xs[k].2 = x2 at *
      go_wp2
      · have h : (x2.toList == a.toList) = true := by assumption
        rw [beq_str, decide_eq_true_eq] at h
        go_ret
        exact ⟨by rw [HY.out h]; rfl, by (repeat' (first | (with_reducible exact Below.refl _ _) | (with_reducible assumption) | (with_reducible refine Below.alloc ?_ ?_ _) | (with_reducible refine Below.drew ?_) | (with_reducible refine Below.setCell ?_ ?_ _) | (with_reducible exact Nat.le_refl _) | omega | ((repeat (first | rewrite [World.size_alloc] | rewrite [World.size_setCell] | rewrite [World.size_drew])); omega) | (simp; omega) | (simp; done)))⟩
      · have h : (x2.toList == a.toList) = false := by assumption
        rw [beq_str, decide_eq_false_iff_not] at h
        go_roundw
        case rel => exact ⟨k + 1, by omega, by go_num, by show _ = _; rw [HR.out, hm.out, if_neg h], by (repeat' (first | (with_reducible exact Below.refl _ _) | (with_reducible assumption) | (with_reducible refine Below.alloc ?_ ?_ _) | (with_reducible refine Below.drew ?_) | (with_reducible refine Below.setCell ?_ ?_ _) | (with_reducible exact Nat.le_refl _) | omega | ((repeat (first | rewrite [World.size_alloc] | rewrite [World.size_setCell] | rewrite [World.size_drew])); omega) | (simp; omega) | (simp; done)))⟩
        case measure => simp [intOf]; omega
    · have hk' : k = xs.length := by omega
      have h1 := hm.out
      rw [hk', List.take_of_length_le (Nat.le_refl _)] at h1
      have HF := Lib.hid (HRN.out h1)
      clear h1 hk'
      go_wp2
      go_ret
      exact ⟨by rw [HF.out]; rfl, hb⟩
set_option maxRecDepth 100000 in
set_option maxHeartbeats 1600000 in
theorem l5Instead_c (xs : List Mv) (v : Value) (a c : ByteArray) (w : World) (hx : RdM w v xs) (hn' : xs.length ≤ 1048575) :
    Calls Try.prog 135 #[v, .string a, .string c] w fun e w' => ∃ v', e = .returned v' ∧ w'.ownsRow w.heap.size 65 2 v' (instM a c xs).length (mcells (instM a c xs)) ∧ Below w.heap.size w w' := by
  obtain ⟨A, cap, rfl, hn, hc, hcell⟩ := hx.open
  have hE := World.ownsRow_lit (e := 65) (base := w.heap.size) (size := 2) w #[] 0 (Nat.le_refl _) (Nat.zero_le _) rfl
  have HL := Lib.hid (fun k => instM_len a c (xs.take k))
  go_enter Try.func135, Try.ntmps135
  go_wp2
  go_loopw [7, 9, 13] (fun o _ i wr => ∃ (k : Nat), k ≤ xs.length ∧ i = .int .i64 k ∧ wr.ownsRow w.heap.size 65 2 o (instM a c (xs.take k)).length (mcells (instM a c (xs.take k))) ∧ Below w.heap.size w wr) (fun _ _ i _ => xs.length - (intOf i).toNat)
  case atStart => exact ⟨0, by omega, rfl, hE, by (repeat' (first | (with_reducible exact Below.refl _ _) | (with_reducible assumption) | (with_reducible refine Below.alloc ?_ ?_ _) | (with_reducible refine Below.drew ?_) | (with_reducible refine Below.setCell ?_ ?_ _) | (with_reducible exact Nat.le_refl _) | omega | ((repeat (first | rewrite [World.size_alloc] | rewrite [World.size_setCell] | rewrite [World.size_drew])); omega) | (simp; omega) | (simp; done)))⟩
  case round =>
    obtain ⟨k, hk, rfl, ho, hb⟩ := hrel
    have hbs := hb.size
    by_cases hlt : k < xs.length
    · obtain ⟨b, off, rfl, hbl, hc1, hc2⟩ := hcell k hlt
      have hd1 := (hb.cell (p := ⟨b, off + k * 2, none⟩) hbl).trans hc1
      have hd2 := (hb.cell (p := ⟨b, off + k * 2 + 1, none⟩) hbl).trans hc2
      have hst := instM_take a c xs k hlt
      have hle := HL.out k
      rw [List.length_take] at hle
      clear hc1 hc2 hcell
      generalize xs[k].1 = x1 at *
      generalize xs[k].2 = x2 at *
      have HST := Lib.hid hst
      clear hst
      generalize instM a c (xs.take k) = ys at *
      by_cases hxa : x2 = a
      · have hbq : (x2.toList == a.toList) = true := by rw [beq_str]; simpa using hxa
        have hs := HST.out
        rw [if_pos hxa] at hs
        have HS := Lib.hid hs
        clear hs hxa
        have hnw := two_new (wr.alloc (.cells #[.string x1, .string c] 65)) (.string x1) (.string c) 65
        rw [World.size_alloc] at hnw
        go_wp2_with (at_builtin; refine held ?_)
        unfold Held
        refine app_mv rfl (.tmp 23) (.tmp 25) rfl w.heap.size u7 ys (x1, c) ⟨wr.heap.size + 1, 0, none⟩ 1 (by rfl) (by rfl) (own_keep (own_keep ho ((Below.refl _ _).alloc (Nat.le_refl _) _)) ((Below.refl _ _).alloc (Nat.le_refl _) _)) hnw (by omega) (by simp; omega) ?_
        intro v' w3 hown3 hgrow3
        have hb3 := below_grown hgrow3 (B := w.heap.size) (by simp; omega) (own_block_ge ho)
        have hbx : Below w.heap.size w ((wr.alloc (.cells #[.string x1, .string c] 65)).alloc (.cells #[.string x1, .string c] 65)) := by (repeat' (first | (with_reducible exact Below.refl _ _) | (with_reducible assumption) | (with_reducible refine Below.alloc ?_ ?_ _) | (with_reducible refine Below.drew ?_) | (with_reducible refine Below.setCell ?_ ?_ _) | (with_reducible exact Nat.le_refl _) | omega | ((repeat (first | rewrite [World.size_alloc] | rewrite [World.size_setCell] | rewrite [World.size_drew])); omega) | (simp; omega) | (simp; done)))
        have hb4 := hbx.trans hb3
        rw [← HS.out] at hown3
        clear hnw hgrow3 hb3 hbx
        go_wp2
        go_roundw
        case rel => exact ⟨k + 1, by omega, by go_num, hown3, hb4⟩
        case measure => simp [intOf]; omega
      · have hbq : (x2.toList == a.toList) = false := by rw [beq_str]; simpa using hxa
        have hs := HST.out
        rw [if_neg hxa] at hs
        have HS := Lib.hid hs
        clear hs hxa
        have hnw := two_new (wr.alloc (.cells #[.string x1, .string x2] 65)) (.string x1) (.string x2) 65
        rw [World.size_alloc] at hnw
        go_wp2_with (at_builtin; refine held ?_)
        unfold Held
        refine app_mv rfl (.tmp 23) (.tmp 25) rfl w.heap.size u7 ys (x1, x2) ⟨wr.heap.size + 1, 0, none⟩ 1 (by rfl) (by rfl) (own_keep (own_keep ho ((Below.refl _ _).alloc (Nat.le_refl _) _)) ((Below.refl _ _).alloc (Nat.le_refl _) _)) hnw (by omega) (by simp; omega) ?_
        intro v' w3 hown3 hgrow3
        have hb3 := below_grown hgrow3 (B := w.heap.size) (by simp; omega) (own_block_ge ho)
        have hbx : Below w.heap.size w ((wr.alloc (.cells #[.string x1, .string x2] 65)).alloc (.cells #[.string x1, .string x2] 65)) := by (repeat' (first | (with_reducible exact Below.refl _ _) | (with_reducible assumption) | (with_reducible refine Below.alloc ?_ ?_ _) | (with_reducible refine Below.drew ?_) | (with_reducible refine Below.setCell ?_ ?_ _) | (with_reducible exact Nat.le_refl _) | omega | ((repeat (first | rewrite [World.size_alloc] | rewrite [World.size_setCell] | rewrite [World.size_drew])); omega) | (simp; omega) | (simp; done)))
        have hb4 := hbx.trans hb3
        rw [← HS.out] at hown3
        clear hnw hgrow3 hb3 hbx
        go_wp2
        go_roundw
        case rel => exact ⟨k + 1, by omega, by go_num, hown3, hb4⟩
        case measure => simp [intOf]; omega
    · have hk' : k = xs.length := by omega
      have ho2 := ho
      rw [hk', List.take_of_length_le (Nat.le_refl _)] at ho2
      clear hk' ho
      go_wp2
      go_ret
      exact ⟨_, rfl, ho2, hb⟩
end Go.Proofs.Ytogkodjlbdlgjaa
namespace Go.PM
open Go.RowKit
theorem add_off (b off j : Nat) : (⟨b, off, none⟩ : Addr).add j = ⟨b, off + j, none⟩ := by
  unfold Addr.add; split <;> simp_all
theorem own_lit1 (w : World) (e : TypeId) (base B : Nat) (hB : w.heap.size = B) (hb : base ≤ B) : (w.alloc (.cells #[] e)).drew.ownsRow base e 2 (.slice (some ⟨B, 0, none⟩) 0 0) ([] : List Mv).length (mcells []) := by
  subst hB
  exact World.ownsRow_lit (e := e) (base := base) (size := 2) w #[] 0 hb (Nat.zero_le _) rfl
end Go.PM
namespace Go.Proofs.Ytogkodjlbdlgjaa
open Go.RowKit Go.PM
attribute [local go_sem] Oper.semAt_some

/-- append of moves that lie somewhere, as a step of a region that draws -/
theorem step_appM {ops : Array Oper} {o : Oper} {a : Act} {w : World} {K : Act → World → Prop} {Q : Exit → Act → World → Prop} {E : Prop} (hgd : o.guard = none) (s x : Operand)
    (ho : o.op = .call { callee := .builtin .append, args := #[s, x], argTypes := #[29, 29] })
    (base : Nat) (v : Value) (ys zs : List Mv) (ad : Addr) (c : Nat) (hs : a.eval s = v) (hx : a.eval x = .slice (some ad) zs.length c)
    (hown : w.ownsRow base 65 2 v ys.length (mcells ys)) (hnew : ∀ j u, (mcells zs)[j]? = some u → w.cell? (ad.add j) = some u)
    (hlen : ys.length + zs.length ≤ 1048576) (hbase : base ≤ w.heap.size)
    (h : ∀ v' w', Hid (w'.ownsRow base 65 2 v' (ys ++ zs).length (mcells (ys ++ zs))) → w.grownBy w' v.ownBlock → K (a.put o.dst v') w') :
    if Region.wanted o (yielded ops a.tmps) = true then Oper.wp Try.prog o a w K Q else E := by
  have hw : Region.wanted o (yielded ops a.tmps) = true := by simp [Region.wanted, hgd]
  rw [if_pos hw]
  obtain ⟨i0, hi0, hz0, hz1, hz2⟩ := info_parts infoMv
  obtain ⟨v', w', hr, h2, h3, _⟩ := run_append_own (P := Try.prog) w base 29 o.type 65 i0 _ 2 32 Try.underlying29 hi0 hz0 hz1 hz2 rfl (by omega) v ys.length (mcells ys) hown ad zs.length c (mcells zs) (mcells_length zs) hnew (mcells_one zs) (by simp only [maxLen]; omega) (by omega) hbase
  unfold Oper.wp
  simp [execOp, ho, resolve, invoke, builtin, hs, hx, hr, Result.andThen]
  refine h v' w' ?_ h3
  show World.ownsRow _ _ _ _ _ _ _
  rw [mcells_append, List.length_append]
  exact h2

set_option maxRecDepth 100000 in
set_option maxHeartbeats 3200000 in
theorem l5Next_c (xs : List Mv) (v : Value) (w : World) (hx : RdM w v xs) (hn' : xs.length ≤ 1048575) (hne : ∀ m ∈ xs, m.1 ≠ m.2) :
    Calls Try.prog 134 #[v] w fun e w' => e = .returned (.int .i64 (aheadZ xs)) ∧ Below w.heap.size w w' := by
  have hx0 := hx
  obtain ⟨A, cap, rfl, hn, hc, hcell⟩ := hx.open
  have HZ := Lib.hid (aheadZ_none (xs := xs))
  have HK := Lib.hid (fun k hk h => aheadZ_at (xs := xs) (k := k) hk h)
  have HRD := Lib.hid (fun ys v a W h => l5Read_c ys v a W h)
  have HNE := Lib.hid hne
  clear hne hx
  go_enter Try.func134, Try.ntmps134
  go_wp2
  go_loopw [3, 4, 5, 8] (fun _ _ _ i wr => ∃ (k : Nat), k ≤ xs.length ∧ i = .int .i64 k ∧ Below w.heap.size w wr ∧ Hid (∀ j (hj : j < k) (hj2 : j < xs.length), freeB xs xs[j] = false)) (fun _ _ _ i _ => xs.length - (RowKit.intOf i).toNat)
  case atStart => exact ⟨0, by omega, rfl, Below.refl _ _, fun j hj => by omega⟩
  case round =>
    obtain ⟨k, hk, rfl, hb, hm⟩ := hrel
    have hbs := hb.size
    by_cases hlt : k < xs.length
    · obtain ⟨b, off, rfl, hbl, hc1, hc2⟩ := hcell k hlt
      have hd1 := (hb.cell (p := ⟨b, off + k * 2, none⟩) hbl).trans hc1
      have hd2 := (hb.cell (p := ⟨b, off + k * 2 + 1, none⟩) hbl).trans hc2
      have hsrc := Rd.cellsFrom hx0
      have hcp : ∀ (W : World), Below w.heap.size w W → ∀ (j : Nat) (u : Value), (mcells (xs.take k))[j]? = some u → W.cell? ((⟨b, off, none⟩ : Addr).add j) = some u := fun W hW j u h => by
        rw [add_off]
        refine (hW.cell hbl).trans (hsrc j u ?_)
        rw [← mcells_take, List.getElem?_take] at h
        split at h
        · exact h
        · cases h
      have hcq : ∀ (W : World), Below w.heap.size w W → ∀ (j : Nat) (u : Value), (mcells (xs.drop (k + 1)))[j]? = some u → W.cell? ((⟨b, off + (k + 1) * 2, none⟩ : Addr).add j) = some u := fun W hW j u h => by
        rw [add_off, Nat.add_assoc]
        refine (hW.cell hbl).trans (hsrc _ u ?_)
        rw [← mcells_drop, List.getElem?_drop] at h
        exact h
      have hltk : (xs.take k).length = k := by rw [List.length_take]; omega
      have hldk : (xs.drop (k + 1)).length = xs.length - (k + 1) := by rw [List.length_drop]
      have hsum : (xs.take k).length + (xs.drop (k + 1)).length ≤ 1048576 := by omega
      have i0 : (0 : Int) ≤ (k : Int) := by omega
      have i1 : (k : Int) ≤ (xs.length : Int) := by omega
      have i2 : (k : Int) + 1 ≤ (xs.length : Int) := by omega
      have HER : Hid (xs.take k ++ xs.drop (k + 1) = xs.eraseIdx k) := by show _ = _; rw [List.eraseIdx_eq_take_drop_succ]
      have HFB : Hid (readB (xs.eraseIdx k) xs[k].1 = !freeB xs xs[k]) := by
        show _ = _
        have h1 := rdN_erase xs k hlt xs[k].1
        rw [if_neg (fun e => HNE.out _ (List.getElem_mem hlt) e.symm), Nat.add_zero] at h1
        unfold readB freeB
        rw [h1]
        by_cases e : rdN (xs.eraseIdx k) xs[k].1 = 0 <;> simp [e]
      have HKK := Lib.hid (fun h => HK.out k hlt h)
      have HNX : Hid (freeB xs xs[k] = false → ∀ j (hj : j < k + 1) (hj2 : j < xs.length), freeB xs xs[j] = false) := fun h j hj hj2 => by
        by_cases e : j = k
        · subst e; exact h
        · exact hm.out j (by omega) hj2
      have HCP := Lib.hid hcp
      have HCQ := Lib.hid hcq
      clear hc1 hc2 hcell hcp hcq hsrc
      generalize hfb : freeB xs xs[k] = fb at *
      clear hfb
      generalize xs[k].1 = x1 at *
      generalize xs[k].2 = x2 at *
      generalize xs.take k = p1 at *
      generalize xs.drop (k + 1) = p2 at *
      generalize xs.eraseIdx k = er at *
      have HB1 : Hid (Below w.heap.size w (wr.alloc (.cells #[.string x1, .string x2] 65))) := hb.alloc hbs _
      have n1 : k ≤ cap := by omega
      have n2 : k + 1 ≤ xs.length := by omega
      have n3 : k + 1 ≤ cap := by omega
      have n4 : IntKind.i64.wrap ((k : Int) + 1) = (k : Int) + 1 := IntWalk.i64_in _ ⟨by omega, by omega⟩
      have n5 : ((k : Int) + 1).toNat = k + 1 := by omega
      have n6 : (0 : Int) ≤ (k : Int) + 1 := by omega
      by_cases hcap : cap = k + 1
      · subst hcap
        have hp20 : p2.length = 0 := by omega
        have n7 : (k : Int) ≤ (k : Int) + 1 := by omega
        have HCZ : Hid (∀ (W : World) (j : Nat) (u : Value), (mcells p2)[j]? = some u → W.cell? ((⟨b, off, none⟩ : Addr).add j) = some u) := fun W j u h => by
          have : p2 = [] := List.length_eq_zero_iff.1 (by omega)
          rw [this] at h; simp [mcells] at h
        go_wp2
        go_region_law (first
          | (refine step_appM rfl (.tmp 13) (.tmp 16) rfl (wr.heap.size + 1) (.slice (some ⟨wr.heap.size + 1, 0, none⟩) 0 0) [] p1 ⟨b, off, none⟩ (k + 1) (by rfl) (by rw [hltk]; rfl) (own_lit1 _ _ _ _ (by simp) (by omega)) (HCP.out _ (by (repeat' (first | (with_reducible exact Below.refl _ _) | (with_reducible assumption) | (with_reducible refine Below.alloc ?_ ?_ _) | (with_reducible refine Below.drew ?_) | (with_reducible refine Below.setCell ?_ ?_ _) | (with_reducible exact Nat.le_refl _) | omega | ((repeat (first | rewrite [World.size_alloc] | rewrite [World.size_setCell] | rewrite [World.size_drew])); omega) | (simp; omega) | (simp; done))))) (by simp; omega) (by simp only [World.size_alloc, World.size_drew]; omega) ?_; intro v1 w1 ho1 hg1; have hb1 := Below.trans (show Below w.heap.size w ((wr.alloc (.cells #[.string x1, .string x2] 65)).alloc (.cells #[] 65)).drew by (repeat' (first | (with_reducible exact Below.refl _ _) | (with_reducible assumption) | (with_reducible refine Below.alloc ?_ ?_ _) | (with_reducible refine Below.drew ?_) | (with_reducible refine Below.setCell ?_ ?_ _) | (with_reducible exact Nat.le_refl _) | omega | ((repeat (first | rewrite [World.size_alloc] | rewrite [World.size_setCell] | rewrite [World.size_drew])); omega) | (simp; omega) | (simp; done)))) (below_grown hg1 (by simp; omega) (fun g e => by have e' : some (wr.heap.size + 1) = some g := e; cases e'; omega)))
          | (refine step_appM rfl (.tmp 17) (.tmp 21) rfl (wr.heap.size + 1) _ _ p2 ⟨b, off, none⟩ 0 (by rfl) (by rw [hp20]; rfl) ho1.out (HCZ.out _) (by simpa using hsum) (by have := hg1.size; simp at this; omega) ?_; intro v2 w2 ho2 hg2))
        have hz1 := hg1.size
        have hz2 := hg2.size
        simp only [World.size_alloc, World.size_drew] at hz1
        have hrd2 : RdM w2 v2 er := by
          have := Rd.of_own ho2.out
          rw [List.nil_append, HER.out] at this
          exact this
        have hge1 := own_block_ge ho1.out
        have hN0 : At ((wr.alloc (.cells #[.string x1, .string x2] 65)).alloc (.cells #[] 65)).drew wr.heap.size 65 #[.string x1, .string x2] := (At.new wr 65 #[.string x1, .string x2]).alloc _
        have hN1 : At w1 wr.heap.size 65 #[.string x1, .string x2] := hN0.grown hg1 (by intro e; have e' : some wr.heap.size = some (wr.heap.size + 1) := e; have := Option.some.inj e'; omega)
        have hN2 : At w2 wr.heap.size 65 #[.string x1, .string x2] := hN1.grown hg2 (fun e => by have := hge1 _ e.symm; omega)
        have q1 : w2.cell? ⟨wr.heap.size, 0, none⟩ = some (.string x1) := hN2.cell 0
        have hb2 : Below w.heap.size w w2 := hb1.trans (below_grown hg2 (by omega) (fun g e => by have := hge1 g e; omega))
        have hs2 := hb2.size
        clear hg1 hg2 hN0 hN1 hN2 ho1 ho2 hd1 hd2 hb1
        have HRR := Lib.hid (HRD.out er v2 x1 w2 hrd2)
        rw [HFB.out] at HRR
        clear hrd2
        cases fb with
        | true =>
          go_wp2_with (go_at_call 154; refine HRR.out.mono ?_; rintro e w3 ⟨rfl, hb3⟩)
          go_ret
          exact ⟨by rw [HKK.out (fun j hj => hm.out j hj (by omega)) (by first | trivial | rfl)]; rfl, hb2.trans (hb3.mono hs2)⟩
        | false =>
          go_wp2_with (go_at_call 154; refine HRR.out.mono ?_; rintro e w3 ⟨rfl, hb3⟩)
          go_roundw
          case rel => exact ⟨k + 1, by omega, by go_num, hb2.trans (hb3.mono hs2), HNX.out (by first | trivial | rfl)⟩
          case measure => simp [RowKit.intOf]; omega
      · go_wp2
        go_region_law (first
          | (refine step_appM rfl (.tmp 13) (.tmp 16) rfl (wr.heap.size + 1) (.slice (some ⟨wr.heap.size + 1, 0, none⟩) 0 0) [] p1 ⟨b, off, none⟩ cap (by rfl) (by rw [hltk]; rfl) (own_lit1 _ _ _ _ (by simp) (by omega)) (HCP.out _ (by (repeat' (first | (with_reducible exact Below.refl _ _) | (with_reducible assumption) | (with_reducible refine Below.alloc ?_ ?_ _) | (with_reducible refine Below.drew ?_) | (with_reducible refine Below.setCell ?_ ?_ _) | (with_reducible exact Nat.le_refl _) | omega | ((repeat (first | rewrite [World.size_alloc] | rewrite [World.size_setCell] | rewrite [World.size_drew])); omega) | (simp; omega) | (simp; done))))) (by simp; omega) (by simp only [World.size_alloc, World.size_drew]; omega) ?_; intro v1 w1 ho1 hg1; have hb1 := Below.trans (show Below w.heap.size w ((wr.alloc (.cells #[.string x1, .string x2] 65)).alloc (.cells #[] 65)).drew by (repeat' (first | (with_reducible exact Below.refl _ _) | (with_reducible assumption) | (with_reducible refine Below.alloc ?_ ?_ _) | (with_reducible refine Below.drew ?_) | (with_reducible refine Below.setCell ?_ ?_ _) | (with_reducible exact Nat.le_refl _) | omega | ((repeat (first | rewrite [World.size_alloc] | rewrite [World.size_setCell] | rewrite [World.size_drew])); omega) | (simp; omega) | (simp; done)))) (below_grown hg1 (by simp; omega) (fun g e => by have e' : some (wr.heap.size + 1) = some g := e; cases e'; omega)))
          | (refine step_appM rfl (.tmp 17) (.tmp 21) rfl (wr.heap.size + 1) _ _ p2 ⟨b, off + (k + 1) * 2, none⟩ (cap - (k + 1)) (by rfl) (by rw [hldk]; rfl) ho1.out (HCQ.out _ hb1) (by simpa using hsum) (by have := hg1.size; simp at this; omega) ?_; intro v2 w2 ho2 hg2))
        have hz1 := hg1.size
        have hz2 := hg2.size
        simp only [World.size_alloc, World.size_drew] at hz1
        have hrd2 : RdM w2 v2 er := by
          have := Rd.of_own ho2.out
          rw [List.nil_append, HER.out] at this
          exact this
        have hge1 := own_block_ge ho1.out
        have hN0 : At ((wr.alloc (.cells #[.string x1, .string x2] 65)).alloc (.cells #[] 65)).drew wr.heap.size 65 #[.string x1, .string x2] := (At.new wr 65 #[.string x1, .string x2]).alloc _
        have hN1 : At w1 wr.heap.size 65 #[.string x1, .string x2] := hN0.grown hg1 (by intro e; have e' : some wr.heap.size = some (wr.heap.size + 1) := e; have := Option.some.inj e'; omega)
        have hN2 : At w2 wr.heap.size 65 #[.string x1, .string x2] := hN1.grown hg2 (fun e => by have := hge1 _ e.symm; omega)
        have q1 : w2.cell? ⟨wr.heap.size, 0, none⟩ = some (.string x1) := hN2.cell 0
        have hb2 : Below w.heap.size w w2 := hb1.trans (below_grown hg2 (by omega) (fun g e => by have := hge1 g e; omega))
        have hs2 := hb2.size
        clear hg1 hg2 hN0 hN1 hN2 ho1 ho2 hd1 hd2 hb1
        have HRR := Lib.hid (HRD.out er v2 x1 w2 hrd2)
        rw [HFB.out] at HRR
        clear hrd2
        cases fb with
        | true =>
          go_wp2_with (go_at_call 154; refine HRR.out.mono ?_; rintro e w3 ⟨rfl, hb3⟩)
          go_ret
          exact ⟨by rw [HKK.out (fun j hj => hm.out j hj (by omega)) (by first | trivial | rfl)]; rfl, hb2.trans (hb3.mono hs2)⟩
        | false =>
          go_wp2_with (go_at_call 154; refine HRR.out.mono ?_; rintro e w3 ⟨rfl, hb3⟩)
          go_roundw
          case rel => exact ⟨k + 1, by omega, by go_num, hb2.trans (hb3.mono hs2), HNX.out (by first | trivial | rfl)⟩
          case measure => simp [RowKit.intOf]; omega
    · have hz := HZ.out fun j hj => hm.out j (by omega) hj
      have HZZ := Lib.hid hz
      clear hz
      go_wp2
      go_ret
      exact ⟨by rw [HZZ.out]; rfl, hb⟩
end Go.Proofs.Ytogkodjlbdlgjaa
