import Derived.Test.YtfedloljhocpgaaGreatDoorZmJC
import Derived.Test.YtfedloljhocpgaaGreatDoorZmJB
import Derived.Test.YtfedloljhocpgaaGreatDoorIm3
import Derived.Test.YtfedloljhocpgaaGreatDoorSpS2
import Derived.Test.YtfedloljhocpgaaGreatDoorNamesIn
import Derived.Test.YtfedloljhocpgaaGreatDoorHold
import Derived.Test.YtfedloljhocpgaaGreatDoorAhd
import Derived.Lib.IndexAny
import Derived.Test.YtfedloljhocpgaaGreatDoorRow
import Derived.Test.YtfedloljhocpgaaGreatDoorTail
import Derived.Test.YtfedloljhocpgaaGreatDoorHar
import Derived.Laws.CopyOwn
import Derived.Stop.RegionWithIn
import Derived.ChangeKeysEq
import Derived.Test.YtfedloljhocpgaaGreatDoorHeld
import Derived.Test.YtfedloljhocpgaaGreatDoorZmJA
import Derived.Test.YtfedloljhocpgaaGreatDoorMarkT
import Derived.Test.YtfedloljhocpgaaGreatDoorDeE
namespace Go.PM
open Go.RowKit Go.PW
theorem busyF_mem {xs : List Mv} (h : MV xs) (m : Mv) : m ∈ busyF xs 9 ↔ m ∈ xs ∧ m.1 ≠ m.2 := by
  have hl : busyF xs 9 = lsF (fun p => srcM xs (nm p)) 9 := rfl
  rw [hl]
  constructor
  · intro hm
    obtain ⟨p, _, hne, e⟩ := lsF_mem hm
    rw [e]
    exact ⟨mem_of_srcM hne, fun e => hne e.symm⟩
  · rintro ⟨hm, hne⟩
    have hok := h.1 m hm
    unfold mok at hok; rw [Bool.and_eq_true] at hok
    have hp := pidx_spec hok.1
    have hs := srcM_of_mem h hm
    refine List.mem_map.2 ⟨pidx m.1, List.mem_filter.2 ⟨List.mem_range.2 hp.1, ?_⟩, ?_⟩
    · unfold lsH
      simp only [hp.2, hs, decide_eq_true_eq]
      exact fun e => hne e.symm
    · simp only [hp.2, hs]
end Go.PM
namespace Go.PS
open Go.PM Go.RowKit Go.PW
def piS (ps : List (Nat × Nat)) : Nat → Nat := appS ps (fun y => y)
theorem appS_pi : ∀ (ps : List (Nat × Nat)) (g : Nat → Nat) (x : Nat), appS ps g x = g (piS ps x)
  | [], g, x => rfl
  | p :: ps, g, x => by
    show appS ps (swp g p.1 p.2) x = g (appS ps (swp (fun y => y) p.1 p.2) x)
    rw [appS_pi ps (swp g p.1 p.2) x, appS_pi ps (swp (fun y => y) p.1 p.2) x]
    rfl
theorem piS_cons (p : Nat × Nat) (ps : List (Nat × Nat)) (x : Nat) : piS (p :: ps) x = tr p.1 p.2 (piS ps x) := by
  show appS ps (swp (fun y => y) p.1 p.2) x = _
  rw [appS_pi]; rfl
theorem piS_lt : ∀ {ps : List (Nat × Nat)}, okP ps → ∀ {x : Nat}, x < 9 → piS ps x < 9
  | [], _, x, h => h
  | p :: ps, ho, x, h => by
    rw [piS_cons]
    have hp := ho p (by simp)
    exact tr_lt hp.1 hp.2.1 (piS_lt (fun q hq => ho q (by simp [hq])) h)
theorem doS_sw (f : Nat → UInt8) {p q : Nat} (hp : p < 9) (hq : q < 9) : doS (PS.swS (p, q)) f = fun x => f (tr p q x) := by
  have : doS (PS.swS (p, q)) f = PM.swS f (cidx (nm p)) (cidx (nm q)) := if_pos rfl
  rw [this, (cidx_nm hp).2, (cidx_nm hq).2]
  funext x
  unfold PM.swS tr
  by_cases h1 : x = p
  · rw [if_pos h1, if_pos h1]
  · rw [if_neg h1, if_neg h1]
    by_cases h2 : x = q
    · rw [if_pos h2, if_pos h2]
    · rw [if_neg h2, if_neg h2]
theorem runS_app (xs ys : List St) (f : Nat → UInt8) : runS (xs ++ ys) (xs ++ ys).length f = runS ys ys.length (runS xs xs.length f) := by
  unfold runS; rw [List.take_length, List.take_length, List.take_length, List.foldl_append]
theorem runS_swL : ∀ (ps : List (Nat × Nat)) (f : Nat → UInt8), okP ps → ∀ x, runS (swL ps) (swL ps).length f x = f (piS ps x)
  | [], f, _, x => by simp [swL, runS, piS, appS]
  | p :: ps, f, ho, x => by
    have hp := ho p (by simp)
    have : runS (swL (p :: ps)) (swL (p :: ps)).length f = runS (swL ps) (swL ps).length (doS (PS.swS p) f) := by
      unfold runS; rw [List.take_length, List.take_length]; rfl
    rw [this, runS_swL ps _ (fun q hq => ho q (by simp [hq])), piS_cons]
    have := doS_sw f hp.1 hp.2.1
    rw [show doS (PS.swS p) f = fun x => f (tr p.1 p.2 x) from this]
theorem right_run {ss : List St} {xs : List Mv} (hv : svalid ss = true) (hx : MV xs) (h : ∀ p, p < 9 → runS ss ss.length nmT p = rdS nmT (srcM xs (nm p))) : irB ss xs = true := by
  rw [← irB_eq ss xs hv hx, List.all_eq_true]
  intro p hp
  rw [decide_eq_true_eq]
  by_cases h9 : p < 9
  · rw [if_pos h9, aoS, if_pos h9, srcM_nm hx h9]
    exact h p h9
  · rw [if_neg h9, aoS, if_neg h9]
theorem swS_ok {p : Nat × Nat} (h1 : p.1 < 9) (h2 : p.2 < 9) : stOk (PS.swS p) = true := by
  have a1 := (cidx_P (isP_nm h1)).1
  have a2 := (cidx_P (isP_nm h2)).1
  unfold stOk PS.swS
  simp only [a1, a2]
  rfl
theorem swL_ok {ps : List (Nat × Nat)} (ho : okP ps) : ∀ x ∈ swL ps, stOk x = true := fun x hx => by
  obtain ⟨p, hp, rfl⟩ := List.mem_map.1 hx
  exact swS_ok (ho p hp).1 (ho p hp).2.1
theorem pi_src {f : Nat → ByteArray} (he : Exch (srcT f)) {ps : List (Nat × Nat)} (ho : okP ps) (h : ∀ x, x < 9 → appS ps (invI (srcT f)) x = x) {x : Nat} (hx : x < 9) : srcT f x = nm (piS ps x) := by
  have h1 := h x hx
  rw [appS_pi] at h1
  exact (he.inv_iff (piS_lt ho hx) hx).2 h1.symm
theorem due_take {T : Nat → UInt8} {ws : List Mv} {f : Nat → UInt8} (h : Due T ws f) (hw : Wt ws) {i : Nat} (hi : i < ws.length) (hf : rdN ws ws[i].1 = 0) :
    Due T (ws.eraseIdx i) (updS f (cidx ws[i].1) (rdS f ws[i].2)) := by
  have hm := List.getElem_mem hi
  have hp := hw.to_ _ hm
  have hz := rdN_zero.1 hf
  refine ⟨fun x hx => ?_, fun p hp9 hn => ?_⟩
  · have hx1 := erase_mem hx
    rw [rdS_ne (hw.from_ x hx1) (.inl hp) (hz x hx1)]
    exact h.rd x hx1
  · by_cases e : nm p = ws[i].1
    · have : cidx ws[i].1 = p := by rw [← e, (cidx_nm hp9).2]
      rw [this, updS, if_pos rfl, h.rd _ hm, this]
    · rw [updS, if_neg]
      · refine h.has p hp9 fun hk => ?_
        obtain ⟨x, hx, ex⟩ := List.mem_map.1 hk
        rcases erase_or hi hx with h1 | h1
        · exact e (by rw [← ex, h1])
        · exact hn (List.mem_map.2 ⟨x, h1, ex⟩)
      · intro e2
        exact e (by rw [e2]; exact (cidx_P hp).2.2)
theorem take_due {T : Nat → UInt8} : ∀ (n : Nat) (ws : List Mv) (f : Nat → UInt8), Wt ws → Due T ws f → Due T (remF n ws) (runM (takF n ws) f)
  | 0, ws, f, _, h => h
  | n + 1, ws, f, hw, h => by
    cases ha : aheadI ws with
    | none => rw [takF_none ha, remF_none ha]; exact h
    | some i =>
      obtain ⟨hi, hf⟩ := aheadI_some ha
      rw [takF_some hi ha, remF_some ha, runM_cons]
      exact take_due n _ _ (hw.erase i) (due_take h hw hi hf)
theorem okP_rw {xs : List Mv} (h : MV xs) : okP (rwM xs) ∧ ∀ x, x < 9 → appS (rwM xs) (invI (srcT (delF (tabOf xs) (takM xs)))) x = x := by
  have h1 := rsA_app (inv_prm (del_exch h)) 9 (Nat.le_refl _)
  have h2 := rsA_id (del_SV h) (del_exch h)
  rw [rw_del h] at h1
  exact ⟨h1.2, fun x hx => by rw [h1.1]; exact h2 x hx⟩
theorem owS_okS {xs : List Mv} (h : MV xs) : ∀ x ∈ owS xs, stOk x = true := by
  rw [owS_yes (by simpa [mvalid] using h)]
  intro x hx
  rw [List.mem_append] at hx
  rcases hx with hx | hx
  · obtain ⟨m, hm, rfl⟩ := List.mem_map.1 hx
    have hw := busyF_Wt h
    have hb := tak_sub 9 _ m hm
    exact stOk_M (.inl (hw.to_ _ hb)) (hw.from_ _ hb)
  · exact swL_ok (okP_rw h).1 x hx
theorem owS_sv {xs : List Mv} (h : MV xs) : svalid (owS xs) = true := by
  unfold svalid
  rw [Bool.and_eq_true, decide_eq_true_eq, List.all_eq_true]
  exact ⟨by have := owS_le xs; omega, owS_okS h⟩
theorem owS_right {xs : List Mv} (h : MV xs) : irB (owS xs) xs = true := by
  refine right_run (owS_sv h) h fun p hp => ?_
  rw [owS_yes (by simpa [mvalid] using h), runS_app, runS_stL]
  obtain ⟨ho, hid⟩ := okP_rw h
  rw [runS_swL _ _ ho]
  have hD : Due (fun p => rdS nmT (srcM xs (nm p))) (remM xs) (runM (takM xs) nmT) := take_due 9 (busyF xs 9) nmT (busyF_Wt h) (busy_due h)
  have hs := pi_src (del_exch h) ho hid hp
  have hpl := piS_lt ho hp
  rw [rem_src h hp, srcM_nm (remM_MV h) hp] at hs
  by_cases hr : nm p ∈ (remM xs).map (·.1)
  · obtain ⟨m, hm, e⟩ := List.mem_map.1 hr
    have h1 := hD.rd m hm
    have h2 := srcM_of_mem (remM_MV h) hm
    rw [e, hs] at h2
    rw [← h2, rdS_nm _ hpl, e, (cidx_nm hp).2] at h1
    exact h1
  · have h1 : srcM (remM xs) (nm p) = nm p := by
      refine Classical.not_not.1 fun hne => hr ?_
      exact List.mem_map.2 ⟨_, mem_of_srcM hne, rfl⟩
    rw [h1] at hs
    have : p = piS (rwM xs) p := nm_inj hp hpl hs
    rw [← this]
    exact hD.has p hp hr
theorem ring_prev {nx : Nat → Option Nat} {s : Nat} (h : OnR nx s) : ∃ j, OnR nx j ∧ nx j = some s := by
  obtain ⟨k, hk, e⟩ := h
  obtain ⟨k, rfl⟩ : ∃ m, k = m + 1 := ⟨k - 1, by omega⟩
  have e2 : (orb nx s k).bind nx = some s := e
  cases hj : orb nx s k with
  | none => rw [hj] at e2; cases e2
  | some j =>
    rw [hj] at e2
    refine ⟨j, ⟨k + 1, by omega, ?_⟩, e2⟩
    have h1 : orb nx j 1 = some s := e2
    rw [show k + 1 = 1 + k by omega, orb_add, h1]
    exact hj
theorem ring_next {nx : Nat → Option Nat} {s : Nat} (h : OnR nx s) : ∃ j, OnR nx j ∧ nx s = some j := by
  obtain ⟨k, hk, e⟩ := h
  obtain ⟨k, rfl⟩ : ∃ m, k = m + 1 := ⟨k - 1, by omega⟩
  rw [show k + 1 = 1 + k by omega, orb_add] at e
  cases hj : orb nx s 1 with
  | none => rw [hj] at e; cases e
  | some j =>
    rw [hj] at e
    have e3 : orb nx j k = some s := e
    have h1 : nx s = some j := hj
    refine ⟨j, ⟨k + 1, by omega, ?_⟩, h1⟩
    show (orb nx j k).bind nx = some j
    rw [e3]; exact h1
theorem wayF_same {nx nx' : Nat → Option Nat} (h : ∀ i, OnR nx i → nx' i = nx i) : ∀ (n : Nat) (acc : List Nat) (i : Nat), OnR nx i → wayF nx' n acc (some i) = wayF nx n acc (some i)
  | 0, acc, i, _ => rfl
  | n + 1, acc, i, hi => by
    unfold wayF
    split
    · rfl
    · obtain ⟨j, hj, e⟩ := ring_next hi
      rw [h i hi, e]
      exact wayF_same h n _ j hj
theorem orb_same {nx nx' : Nat → Option Nat} (h : ∀ i, OnR nx i → nx' i = nx i) {s : Nat} (hs : OnR nx s) : ∀ k, orb nx' s k = orb nx s k ∧ ∃ j, orb nx s k = some j ∧ OnR nx j
  | 0 => ⟨rfl, s, rfl, hs⟩
  | k + 1 => by
    obtain ⟨h1, j, h2, h3⟩ := orb_same h hs k
    obtain ⟨i, h4, h5⟩ := ring_next h3
    have e : orb nx s (k + 1) = some i := by show (orb nx s k).bind nx = _; rw [h2]; exact h5
    refine ⟨?_, i, e, h4⟩
    rw [e]
    show (orb nx' s k).bind nx' = _
    rw [h1, h2]
    show nx' j = _
    rw [h j h3]; exact h5
theorem orb_sub {nx nx' : Nat → Option Nat} (h : ∀ i j, nx' i = some j → nx i = some j) {s : Nat} : ∀ k j, orb nx' s k = some j → orb nx s k = some j
  | 0, j, e => e
  | k + 1, j, e => by
    have e2 : (orb nx' s k).bind nx' = some j := e
    cases hi : orb nx' s k with
    | none => rw [hi] at e2; cases e2
    | some i =>
      rw [hi] at e2
      show (orb nx s k).bind nx = _
      rw [orb_sub h k i hi]
      exact h i j e2
theorem rings_same {nx nx' : Nat → Option Nat} (hn : Nice nx) (hn' : Nice nx') (h1 : ∀ i, OnR nx i → nx' i = nx i) (h2 : ∀ i j, nx' i = some j → nx i = some j) : ∀ k, k ≤ 9 → ringsF nx' k = ringsF nx k
  | 0, _ => rfl
  | k + 1, hk => by
    have ih := rings_same hn hn' h1 h2 k (by omega)
    have hon : onRb nx' k = onRb nx k := by
      rw [Bool.eq_iff_iff, onRb_iff hn (by omega), onRb_iff hn' (by omega)]
      constructor
      · rintro ⟨m, hm, e⟩; exact ⟨m, hm, orb_sub h2 m k e⟩
      · intro hr
        obtain ⟨m, hm, e⟩ := hr
        exact ⟨m, hm, ((orb_same h1 ⟨m, hm, e⟩ m).1).trans e⟩
    by_cases hr : onRb nx k = true
    · have hw : way nx' k = way nx k := wayF_same h1 20 [] k ((onRb_iff hn (by omega)).1 hr)
      unfold ringsF
      rw [ih, hon, hw]
    · unfold ringsF
      rw [ih, hon, if_neg (fun e => hr e.1), if_neg (fun e => hr e.1)]
theorem ring_waits {xs : List Mv} (h : MV xs) : ∀ (n : Nat) (ws : List Mv), Wt ws → (∀ i, OnR (nxT (tabOf xs)) i → (nm i, srcM xs (nm i)) ∈ ws) → ∀ i, OnR (nxT (tabOf xs)) i → (nm i, srcM xs (nm i)) ∈ remF n ws
  | 0, ws, _, hI => hI
  | n + 1, ws, hw, hI => by
    cases ha : aheadI ws with
    | none => rw [remF_none ha]; exact hI
    | some i =>
      obtain ⟨hi, hf⟩ := aheadI_some ha
      rw [remF_some ha]
      refine ring_waits h n _ (hw.erase i) fun p hp => ?_
      rcases erase_or hi (hI p hp) with e | e
      · exfalso
        obtain ⟨j, hj, ej⟩ := ring_prev hp
        have hn := nice (SV_tab h)
        have hj9 := hn.low j p ej
        have hsx : sx (tabOf xs) j = p := by
          unfold nxT at ej
          rw [if_pos hj9] at ej
          split at ej
          · cases ej
          · exact Option.some.inj ej
        have hp9 : p < 9 := by obtain ⟨q, hq⟩ := ring_next hp; exact hn.low p q hq.2
        have hsrc : srcM xs (nm j) = nm p := by
          have := (sx_lt (SV_tab h) hj9).2
          rw [hsx, sn_nm _ hp9, srcM_nm h hj9] at this
          exact this.symm
        have := rdN_zero.1 hf _ (hI j hj)
        rw [← e] at this
        exact this hsrc
      · exact e
theorem rem_rings {xs : List Mv} (h : MV xs) : ringsF (nxT (tabOf (remM xs))) 9 = ringsF (nxT (tabOf xs)) 9 := by
  have hM := remM_MV h
  have hw := ring_waits h 9 (busyF xs 9) (busyF_Wt h) fun i hi => by
    obtain ⟨j, _, e⟩ := ring_next hi
    have hn := nice (SV_tab h)
    have hi9 := hn.low i j e
    have hne : srcM xs (nm i) ≠ nm i := fun e2 => by
      have h1 : sx (tabOf xs) i = i := (src_self (SV_tab h) hi9).1 (by rw [srcM_nm h hi9]; exact e2)
      unfold nxT at e
      rw [if_pos hi9, if_pos h1] at e
      cases e
    exact (busyF_mem h _).2 ⟨mem_of_srcM hne, fun e => hne e.symm⟩
  have key : ∀ i, i < 9 → nm i ∈ (remM xs).map (·.1) → nxT (tabOf (remM xs)) i = nxT (tabOf xs) i := fun i hi hr => by
    obtain ⟨m, hm, e⟩ := List.mem_map.1 hr
    have h1 := srcM_of_mem hM hm
    obtain ⟨q, hq, rfl, _⟩ := busy_is ((remF_sub 9 (busyF xs 9)).subset hm)
    have : q = i := nm_inj hq hi e
    subst this
    unfold nxT
    have : sx (tabOf (remM xs)) q = sx (tabOf xs) q := by unfold sx; rw [srcM_nm hM hq, srcM_nm h hq]; exact congrArg _ h1
    rw [this]
  refine rings_same (nice (SV_tab h)) (nice (SV_tab hM)) (fun i hi => ?_) (fun i j e => ?_) 9 (Nat.le_refl _)
  · obtain ⟨j, _, e⟩ := ring_next hi
    exact key i ((nice (SV_tab h)).low i j e) (List.mem_map.2 ⟨_, hw i hi, rfl⟩)
  · have hi9 := (nice (SV_tab hM)).low i j e
    by_cases hr : nm i ∈ (remM xs).map (·.1)
    · rw [← key i hi9 hr]; exact e
    · have h1 : srcM (remM xs) (nm i) = nm i := by
        refine Classical.not_not.1 fun hne => hr ?_
        exact List.mem_map.2 ⟨_, mem_of_srcM hne, rfl⟩
      have h2 : sx (tabOf (remM xs)) i = i := (src_self (SV_tab hM) hi9).1 (by rw [srcM_nm hM hi9]; exact h1)
      unfold nxT at e
      rw [if_pos hi9, if_pos h2] at e
      cases e
theorem nodup_of_map {α β : Type _} {f : α → β} {l : List α} (h : (l.map f).Nodup) : l.Nodup := List.Pairwise.of_map f (fun _ _ hne e => hne (congrArg f e)) h
theorem rem_busy {xs : List Mv} (h : MV xs) : (busyF (remM xs) 9).length = (remM xs).length := by
  have hM := remM_MV h
  have hW := remM_Wt h
  have n1 : (busyF (remM xs) 9).Nodup := nodup_of_map (busyF_Wt hM).keys
  have n2 : (remM xs).Nodup := nodup_of_map hW.keys
  refine List.Perm.length_eq ((List.perm_ext_iff_of_nodup n1 n2).2 fun m => ?_)
  rw [busyF_mem hM]
  exact ⟨fun e => e.1, fun e => ⟨e, hW.ne m e⟩⟩
theorem owS_len {xs : List Mv} (h : MV xs) : (owS xs).length + (ringsF (nxT (tabOf xs)) 9).length = (busyF xs 9).length := by
  rw [owS_yes (by simpa [mvalid] using h), List.length_append, swL_len]
  have h1 := (tak_rem 9 (busyF xs 9) (busyF_Wt h).keys).2.2
  have h2 := busy_flat (exchB_iff.2 ⟨remM_MV h, remM_exch h⟩)
  rw [rem_busy h] at h2
  have h3 := prs_count _ (rings_pos (SV_tab (remM_MV h)))
  rw [← h2, rem_rings h] at h3
  have h4 : (rwM xs).length = ((ringsF (nxT (tabOf xs)) 9).flatMap prs).length := by unfold rwM; rw [rem_rings h]
  have h5 : (stL (takM xs)).length = (takF 9 (busyF xs 9)).length := by unfold stL takM; rw [List.length_map]
  have h6 : (remM xs).length = (remF 9 (busyF xs 9)).length := rfl
  omega
end Go.PS
namespace Go.PM
open Go.RowKit Go.Lib
def wrB (x : St) : ByteArray := if x.1 = 1 then x.2.1 ++ x.2.2 else x.2.1
theorem wrB_move (k : Int) (a b : ByteArray) (h : ¬ k = 1) : wrB (k, a, b) = a := if_neg h
theorem wrB_swap (a b : ByteArray) : wrB (1, a, b) = a ++ b := if_pos rfl
def wrL (xs : List St) : List UInt8 := xs.flatMap fun x => (wrB x).data.toList
def tcH (xs : List St) (p : Nat) : Bool := inTx cellsL (wrL xs) p
def tcB (xs : List St) : ByteArray := okS (svalid xs) (pickB cellsL (tcH xs) 11)
def tq (p : Nat) : ByteArray := ⟨#[cellsL.getD p 0]⟩
def tcX (p : Nat) (x : St) : Bool := decide (x.2.1 = tq p) || (decide (x.1 = 1) && decide (x.2.2 = tq p))
def tcI (xs : List St) (p k : Nat) : Bool := (xs.take k).any (tcX p)
theorem mem_one {a : ByteArray} (h : a.size = 1) (p : Nat) : cellsL.getD p 0 ∈ a.data.toList ↔ a = tq p := by
  obtain ⟨c, rfl⟩ := one_of_size h
  constructor
  · intro h'
    simp at h'
    rw [tq, ← h']; simp
  · intro h'
    rw [h']; simp [tq]
theorem tcI_full {xs : List St} (h : svalid xs = true) (p : Nat) : tcI xs p xs.length = tcH xs p := by
  unfold tcI tcH inTx
  rw [List.take_length, Bool.eq_iff_iff, List.any_eq_true, decide_eq_true_eq, wrL, List.mem_flatMap]
  have key : ∀ x ∈ xs, tcX p x = true ↔ cellsL.getD p 0 ∈ (wrB x).data.toList := fun x hx => by
    obtain ⟨k, hk, rfl⟩ := List.getElem_of_mem hx
    have hv := svalid_at h k hk
    generalize xs[k] = y at *
    obtain ⟨k, a, b⟩ := y
    rcases stOk_kind hv with rfl | rfl
    · rw [wrB_move 0 a b (by decide), mem_one (isC_size (stOk_move hv).1)]
      simp [tcX]
    · rw [wrB_swap]
      have h1 := mem_one (isC_size (stOk_swap hv).1) p
      have h2 := mem_one (isC_size (stOk_swap hv).2) p
      simp only [ByteArray.data_append, Array.toList_append, List.mem_append, h1, h2]
      simp [tcX]
  constructor
  · rintro ⟨x, hx, e⟩; exact ⟨x, hx, (key x hx).1 e⟩
  · rintro ⟨x, hx, e⟩; exact ⟨x, hx, (key x hx).2 e⟩
end Go.PM
namespace Go.Proofs.YtfedloljhocpgaaGreatDoor
open Go.RowKit Go.PM

end Go.Proofs.YtfedloljhocpgaaGreatDoor
namespace Go.PM
open Go.RowKit
theorem cell_inj : ∀ p < 11, ∀ q < 11, cellsL.getD q 0 = cellsL.getD p 0 → q = p := by decide +kernel
theorem pmH_pick (h : Nat → Bool) (p : Nat) (hp : p < 11) : pmH (pickB cellsL h 11) ⟨#[cellsL.getD p 0]⟩ = h p := by
  rw [pmH_one, Bool.eq_iff_iff, decide_eq_true_eq]
  unfold pickB pickL
  simp only [List.mem_map, List.mem_filter, List.mem_range]
  constructor
  · rintro ⟨q, ⟨hq, hh⟩, e⟩
    rw [cell_inj p hp q hq e] at hh; exact hh
  · intro hh; exact ⟨p, ⟨hp, hh⟩, rfl⟩
end Go.PM
namespace Go.PM
open Go.PW
open Go.RowKit
def needB (xs : List Mv) : Bool := decide (0 < (closedB xs).length)
def cioI (xs : List Mv) : Int := if mvalid xs then ((busyF xs 9).length : Int) + ((closedB xs).length : Int) else -1
end Go.PM
namespace Go.Proofs.YtfedloljhocpgaaGreatDoor
open Go.RowKit Go.PM Go.PW

set_option maxRecDepth 100000 in
set_option maxHeartbeats 800000 in
theorem imCountInOrder_c (xs : List Mv) (v : Value) (w : World) (hx : RdM w v xs) (hn' : xs.length ≤ 1048576) :
    Calls Tryz.prog 21 #[v] w fun e w' => e = .returned (.int .i64 (cioI xs)) ∧ Below w.heap.size w w' := by
  have HN : Hid (cioI xs = if mvalid xs then ((busyF xs 9).length : Int) + ((closedB xs).length : Int) else -1) := rfl
  have HI : Hid (countI xs = if mvalid xs then ((busyF xs 9).length : Int) else -1) := rfl
  have hl1 := busyF_len xs 9
  have hl2 := closedB_len xs
  have HC := Lib.hid (imClosedRings_c xs v w hx)
  have HB := Lib.hid (fun W (hW : Below w.heap.size w W) => imCountBusy_c xs v W (hx.below hW) hn')
  go_enter Tryz.func21, Tryz.ntmps21
  go_wp2_with fail
  refine HC.out.mono ?_
  rintro e w1 ⟨v', rfl, ho, hb⟩
  obtain ⟨A, cap, rfl, _⟩ := Rd.of_own ho
  clear ho HC hx
  have hs1 := hb.size
  rcases Bool.eq_false_or_eq_true (mvalid xs) with h1 | h1
  · have hci := HI.out
    rw [h1, if_pos rfl] at hci
    have hcb := HB.out _ hb
    rw [hci] at hcb
    generalize (closedB xs).length = n at *
    generalize (busyF xs 9).length = m at *
    go_wp2_with (go_at_call 20; refine hcb.mono ?_; rintro e w2 ⟨rfl, hb2⟩; refine held ?_)
    unfold Held
    have hb3 := hb.trans (hb2.mono hs1)
    clear hb2 hcb hci
    go_wp2
    go_ret
    exact ⟨by rw [HN.out, h1, if_pos rfl]; rfl, hb3⟩
  · go_wp2
    go_ret
    exact ⟨by rw [HN.out, h1]; rfl, hb⟩
end Go.Proofs.YtfedloljhocpgaaGreatDoor
namespace Go.PW
open Go.PM Go.RowKit
def firstR (nx : Nat → Option Nat) (s : Nat) : Bool := onRb nx s && decide (s ∉ (ringsF nx s).flatten)
theorem ringsF_map (nx : Nat → Option Nat) : ∀ k, ringsF nx k = ((List.range k).filter (firstR nx)).map (way nx) := by
  intro k
  induction k with
  | zero => rfl
  | succ k ih =>
    rw [List.range_succ, List.filter_append, List.map_append, ← ih]
    by_cases hc : onRb nx k = true ∧ k ∉ (ringsF nx k).flatten
    · have hf : firstR nx k = true := by unfold firstR; rw [hc.1, decide_eq_true hc.2]; rfl
      rw [ringsF_yes hc.1 hc.2]; simp [hf]
    · have hf : firstR nx k = false := by
        unfold firstR
        rcases Bool.eq_false_or_eq_true (onRb nx k) with h1 | h1
        · rw [h1, decide_eq_false (fun h2 => hc ⟨h1, h2⟩)]; rfl
        · rw [h1]; rfl
      rw [ringsF_no hc]; simp [hf]
theorem closedB_count {xs : List Mv} (h : MV xs) : (closedB xs).length = ((List.range 9).filter fun s => firstR (nxT (tabOf xs)) s && shut1 (tabOf xs) (way (nxT (tabOf xs)) s)).length := by
  unfold closedB closedT
  rw [if_pos (by simpa [mvalid] using h), List.length_map, ringsF_map, List.filter_map, List.length_map, List.filter_filter]
  congr 1
  refine List.filter_congr fun s _ => ?_
  exact Bool.and_comm _ _
theorem rcount_rdN {xs : List Mv} (h : MV xs) {q : Nat} (hq : q < 9) : rdN (busyF xs 9) (nm q) = rcount (tabOf xs) q := by
  have e1 : rcount (tabOf xs) q = ((List.range 9).filter (rdH (tabOf xs) (sn q))).length := by
    unfold rcount namesW
    simp [ByteArray.size, namesL]
  have e2 : rdN (busyF xs 9) (nm q) = ((List.range 9).filter fun p => busyH xs p && (srcM xs (nm p) == nm q)).length := by
    unfold rdN busyF
    rw [List.map_map, List.count_eq_countP, List.countP_map, List.countP_eq_length_filter, List.filter_filter]
    congr 1
    refine List.filter_congr fun p _ => ?_
    exact Bool.and_comm _ _
  rw [e1, e2]
  congr 1
  refine List.filter_congr fun p hp => ?_
  have hp9 := List.mem_range.1 hp
  have e3 : srcT (tabOf xs) p = srcM xs (nm p) := srcT_M h hp9
  unfold busyH rdH
  rw [e3, sn_nm q hq, Bool.eq_iff_iff, Bool.and_eq_true, Bool.and_eq_true, decide_eq_true_eq, beq_iff_eq, decide_eq_true_eq, decide_eq_true_eq]
  constructor
  · rintro ⟨h1, h2⟩; exact ⟨fun e => h1 (by rw [h2, e]), h2⟩
  · rintro ⟨h1, h2⟩; exact ⟨fun e => h1 (by rw [← e, h2]), h2⟩
theorem busy_next {xs : List Mv} (h : MV xs) {p : Nat} (hp : p < 9) {b : ByteArray} (hb : (nm p, b) ∈ busyF xs 9) : ∃ j, nxT (tabOf xs) p = some j ∧ sn j = b ∧ sidx b = j := by
  obtain ⟨h1, h2⟩ := (busyF_mem h _).1 hb
  have hs : srcM xs (nm p) = b := srcM_of_mem h h1
  have e3 : srcT (tabOf xs) p = srcM xs (nm p) := srcT_M h hp
  have hf := SV_tab h
  have hx := sx_lt hf hp
  rw [e3, hs] at hx
  have hne : sx (tabOf xs) p ≠ p := fun e => by
    rw [e, sn_nm p hp] at hx
    exact h2 hx.2
  exact ⟨_, nxT_some hp hne, hx.2, by rw [← hx.2, sidx_sn hx.1]⟩
theorem next_busy {xs : List Mv} (h : MV xs) {p j : Nat} (hn : nxT (tabOf xs) p = some j) : p < 9 ∧ (nm p, sn j) ∈ busyF xs 9 := by
  have hf := SV_tab h
  have hp : p < 9 := (nice hf).low p j hn
  refine ⟨hp, ?_⟩
  unfold nxT at hn
  rw [if_pos hp] at hn
  by_cases e : sx (tabOf xs) p = p
  · rw [if_pos e] at hn; cases hn
  · rw [if_neg e, Option.some.injEq] at hn
    have hx := sx_lt hf hp
    have e3 : srcT (tabOf xs) p = srcM xs (nm p) := srcT_M h hp
    rw [e3, hn] at hx
    have hj : j ≠ p := fun e2 => e (by rw [hn, e2])
    have hne : srcM xs (nm p) ≠ nm p := by
      rw [← hx.2, ← sn_nm p hp]
      exact fun e2 => hj (sn_inj hx.1 (by omega) e2)
    rw [hx.2]
    exact (busyF_mem h _).2 ⟨mem_of_srcM hne, fun e2 => hne e2.symm⟩
theorem clo_bridge {xs : List Mv} (h : MV xs) {p : Nat} (hp : p < 9) :
    Clo (busyF xs 9) p ↔ (firstR (nxT (tabOf xs)) p && shut1 (tabOf xs) (way (nxT (tabOf xs)) p)) = true := by
  have hf := SV_tab h
  have hn := nice hf
  have hr := way_rho hn (show p < 19 by omega)
  rw [Bool.and_eq_true]
  unfold firstR shut1
  rw [Bool.and_eq_true, decide_eq_true_eq, List.all_eq_true]
  constructor
  · rintro ⟨n, o, h0, o0, on, hk⟩
    have hoP : ∀ k, k < n → isP (o k) = true := fun k hkn => by
      have h1 := ((busyF_mem h _).1 (hk k hkn).1).1
      have := h.1 _ h1
      unfold mok at this; rw [Bool.and_eq_true] at this; exact this.1
    have hstep : ∀ k, k < n → ∃ j, j < n ∧ nxT (tabOf xs) (pidx (o k)) = some (pidx (o j)) ∧ o j = o (k + 1) := fun k hkn => by
      obtain ⟨j, hj, e⟩ := ring_wrap h0 (on.trans o0.symm) hkn
      have hs := pidx_spec (hoP k hkn)
      have hb := (hk k hkn).1
      rw [← hs.2] at hb
      obtain ⟨t, ht1, ht2, ht3⟩ := busy_next h hs.1 hb
      refine ⟨j, hj, ?_, e.symm⟩
      rw [ht1, ← ht3, e, sidx_pidx (hoP j hj)]
    have horb : ∀ k, ∃ j, j < n ∧ orb (nxT (tabOf xs)) p k = some (pidx (o j)) := by
      intro k
      induction k with
      | zero => exact ⟨0, h0, by rw [o0, pidx_nm hp]; rfl⟩
      | succ k ih =>
        obtain ⟨j, hj, e⟩ := ih
        obtain ⟨j', hj', e', _⟩ := hstep j hj
        exact ⟨j', hj', by simp only [orb, e, Option.bind_some]; exact e'⟩
    have horb2 : ∀ k, k < n → orb (nxT (tabOf xs)) p k = some (pidx (o k)) := by
      intro k
      induction k with
      | zero => intro _; rw [o0, pidx_nm hp]; rfl
      | succ k ih =>
        intro hk1
        obtain ⟨j', hj', e', e2⟩ := hstep k (by omega)
        simp only [orb, ih (by omega), Option.bind_some]
        rw [e', e2]
    have hon : OnR (nxT (tabOf xs)) p := by
      refine ⟨n, h0, ?_⟩
      obtain ⟨m, rfl⟩ : ∃ m, n = m + 1 := ⟨n - 1, by omega⟩
      obtain ⟨j', hj', e', e2⟩ := hstep m (by omega)
      simp only [orb, horb2 m (by omega), Option.bind_some]
      rw [e', e2, on, pidx_nm hp]
    have hrb := (onRb_iff hn (show p < 19 by omega)).2 hon
    have hway : ∀ i ∈ way (nxT (tabOf xs)) p, ∃ j, j < n ∧ i = pidx (o j) := fun i hi => by
      obtain ⟨k, hk1⟩ := List.getElem?_of_mem hi
      have hkl := (List.getElem?_eq_some_iff.1 hk1).1
      rw [hr.at_ k hkl] at hk1
      obtain ⟨j, hj, e⟩ := horb k
      rw [hk1] at e
      exact ⟨j, hj, Option.some.inj e⟩
    refine ⟨⟨hrb, fun hm => ?_⟩, fun i hi => ?_⟩
    · obtain ⟨l, hl, hpl⟩ := List.mem_flatten.1 hm
      obtain ⟨s, hs, rfl, hr', _⟩ := ringsF_mem2 p l hl
      obtain ⟨k, hk1⟩ := ring_back hn (show s < 19 by omega) hr' hpl
      obtain ⟨j, hj, e⟩ := horb k
      rw [hk1] at e
      have := (hk j hj).2.2
      have := Option.some.inj e
      omega
    · obtain ⟨j, hj, rfl⟩ := hway i hi
      have hs := pidx_spec (hoP j hj)
      rw [decide_eq_true_eq, ← rcount_rdN h hs.1, hs.2]
      exact (hk j hj).2.1
  · rintro ⟨⟨hrb, hfi⟩, hsh⟩
    have hon := (onRb_iff hn (show p < 19 by omega)).1 hrb
    have hend := hr.onR.1 hon
    have hmin := ring_min hn hp hrb hfi
    refine ⟨(way (nxT (tabOf xs)) p).length, fun k => sn ((orb (nxT (tabOf xs)) p k).getD 0), hr.pos, sn_nm p hp, ?_, fun k hk => ?_⟩
    · show sn ((orb (nxT (tabOf xs)) p (way (nxT (tabOf xs)) p).length).getD 0) = nm p
      rw [hend]; exact sn_nm p hp
    · have hk1 := hr.some_ hk
      have hmem : (way (nxT (tabOf xs)) p)[k] ∈ way (nxT (tabOf xs)) p := List.getElem_mem hk
      generalize (way (nxT (tabOf xs)) p)[k] = i at hk1 hmem
      have hi := ring_low hn (ring_all hn (show p < 19 by omega) hon i hmem)
      have hnx : ∃ j, nxT (tabOf xs) i = some j := by
        have := ring_all hn (show p < 19 by omega) hon i hmem
        obtain ⟨k', hk', e⟩ := this
        obtain ⟨k', rfl⟩ : ∃ m, k' = m + 1 := ⟨k' - 1, by omega⟩
        rw [show k' + 1 = 1 + k' by omega, orb_add] at e
        cases h1 : nxT (tabOf xs) i with
        | none => rw [show orb (nxT (tabOf xs)) i 1 = none by simp only [orb, Option.bind_some]; exact h1] at e; cases e
        | some j => exact ⟨j, rfl⟩
      obtain ⟨j, hj⟩ := hnx
      have hk2 : orb (nxT (tabOf xs)) p (k + 1) = some j := by simp only [orb, hk1, Option.bind_some]; exact hj
      refine ⟨?_, ?_, ?_⟩
      · show (sn ((orb (nxT (tabOf xs)) p k).getD 0), sn ((orb (nxT (tabOf xs)) p (k + 1)).getD 0)) ∈ _
        rw [hk1, hk2]
        show (sn i, sn j) ∈ _
        rw [sn_nm i hi]
        exact (next_busy h hj).2
      · show rdN _ (sn ((orb (nxT (tabOf xs)) p k).getD 0)) = 1
        rw [hk1]
        show rdN _ (sn i) = 1
        rw [sn_nm i hi, rcount_rdN h hi]
        have := hsh i hmem
        simpa using this
      · show p ≤ pidx (sn ((orb (nxT (tabOf xs)) p k).getD 0))
        rw [hk1]
        show p ≤ pidx (sn i)
        rw [sn_nm i hi, pidx_nm hi]
        exact hmin i hmem
theorem clo_closed {xs : List Mv} (h : MV xs) : cloN (busyF xs 9) = (closedB xs).length := by
  rw [closedB_count h]
  unfold cloN
  congr 1
  refine List.filter_congr fun p hp => ?_
  rw [Bool.eq_iff_iff, cloB_iff]
  exact clo_bridge h (List.mem_range.1 hp)
theorem wrL_stL (ms : List Mv) : wrL (stL ms) = ms.flatMap fun m => m.1.data.toList := by
  unfold wrL stL
  rw [List.flatMap_map]
  congr 1
theorem sp_byte {a : ByteArray} (h : isP a = true ∨ a = spT) : (116 ∈ a.data.toList ↔ a = spT) ∧ 117 ∉ a.data.toList := by
  rcases h with h | rfl
  · obtain ⟨p, hp, rfl⟩ := nm_of_isP h
    match p, hp with
    | 0, _ | 1, _ | 2, _ | 3, _ | 4, _ | 5, _ | 6, _ | 7, _ | 8, _ => decide +kernel
  · decide +kernel
theorem tcH_stL {ms : List Mv} (hm : ∀ m ∈ ms, isP m.1 = true ∨ m.1 = spT) : tcH (stL ms) 9 = ms.any (fun m => decide (m.1 = spT)) ∧ tcH (stL ms) 10 = false := by
  unfold tcH inTx
  rw [wrL_stL]
  constructor
  · rw [Bool.eq_iff_iff, decide_eq_true_eq, List.any_eq_true, List.mem_flatMap]
    constructor
    · rintro ⟨m, h1, h2⟩; exact ⟨m, h1, decide_eq_true ((sp_byte (hm m h1)).1.1 h2)⟩
    · rintro ⟨m, h1, h2⟩; exact ⟨m, h1, (sp_byte (hm m h1)).1.2 (of_decide_eq_true h2)⟩
  · rw [decide_eq_false_iff_not, List.mem_flatMap]
    rintro ⟨m, h1, h2⟩
    exact (sp_byte (hm m h1)).2 h2
theorem ord_facts {xs : List Mv} (h : MV xs) : ((ordM xs).length : Int) = cioI xs ∧ cioI xs = ((busyF xs 9).length : Int) + ((closedB xs).length : Int) ∧
    pmH (tcB (stL (ordM xs))) ⟨#[116]⟩ = needB xs ∧ pmH (tcB (stL (ordM xs))) ⟨#[117]⟩ = false := by
  have hm : mvalid xs = true := by simpa [mvalid] using h
  have hw := ordF_count 19 (busyF xs 9) (busyF_Wt h) (busyF_Srt xs) busy_mu
  have hv := ordM_valid h
  have ho := ordF_ok 19 (busyF xs 9) (busyF_Wt h)
  have ht := tcH_stL (ms := ordF 19 (busyF xs 9)) fun m hm => (ho m hm).1
  have e : tcB (stL (ordM xs)) = pickB cellsL (tcH (stL (ordM xs))) 11 := by unfold tcB; rw [hv]; rfl
  refine ⟨?_, ?_, ?_, ?_⟩
  · rw [ordM_yes h, hw.1, clo_closed h]
    unfold cioI; rw [if_pos hm]; omega
  · unfold cioI; rw [if_pos hm]
  · rw [e, ordM_yes h]
    have := pmH_pick (tcH (stL (ordF 19 (busyF xs 9)))) 9 (by omega)
    rw [ht.1, hw.2, clo_closed h] at this
    exact this
  · rw [e, ordM_yes h]
    have := pmH_pick (tcH (stL (ordF 19 (busyF xs 9)))) 10 (by omega)
    rw [ht.2] at this
    exact this
end Go.PW
namespace Go.PS
open Go.PM Go.RowKit Go.PW Go.Proofs.YtfedloljhocpgaaGreatDoor
theorem isP_tq {a : ByteArray} (h : isP a = true) : a ≠ tq 9 ∧ a ≠ tq 10 := by
  constructor <;> (intro e; rw [e] at h; revert h; decide +kernel)
theorem tch_none {ss : List St} (hv : svalid ss = true) (h : ∀ x ∈ ss, isP x.2.1 = true ∧ (x.1 = 1 → isP x.2.2 = true)) : pmH (tcB ss) ⟨#[116]⟩ = false ∧ pmH (tcB ss) ⟨#[117]⟩ = false := by
  have e : tcB ss = pickB cellsL (tcH ss) 11 := by unfold tcB; rw [hv]; rfl
  have key : ∀ p, (∀ a, isP a = true → a ≠ tq p) → tcH ss p = false := fun p hp => by
    rw [← tcI_full hv p]
    unfold tcI
    rw [List.take_length, List.any_eq_false]
    intro x hx
    obtain ⟨h1, h2⟩ := h x hx
    unfold tcX
    rw [Bool.or_eq_true, Bool.and_eq_true, decide_eq_true_eq, decide_eq_true_eq, decide_eq_true_eq]
    rintro (e | ⟨e1, e2⟩)
    · exact hp _ h1 e
    · exact hp _ (h2 e1) e2
  refine ⟨?_, ?_⟩
  · rw [e]
    have := pmH_pick (tcH ss) 9 (by omega)
    rw [key 9 fun a ha => (isP_tq ha).1] at this
    exact this
  · rw [e]
    have := pmH_pick (tcH ss) 10 (by omega)
    rw [key 10 fun a ha => (isP_tq ha).2] at this
    exact this
theorem owS_tch {xs : List Mv} (h : MV xs) : pmH (tcB (owS xs)) ⟨#[116]⟩ = false ∧ pmH (tcB (owS xs)) ⟨#[117]⟩ = false := by
  refine tch_none (owS_sv h) fun x hx => ?_
  rw [owS_yes (by simpa [mvalid] using h), List.mem_append] at hx
  rcases hx with hx | hx
  · obtain ⟨m, hm, rfl⟩ := List.mem_map.1 hx
    have hb := tak_sub 9 _ m hm
    exact ⟨(busyF_Wt h).to_ _ hb, fun e => by have e2 : (0 : Int) = 1 := e; omega⟩
  · obtain ⟨p, hp, rfl⟩ := List.mem_map.1 hx
    have := (okP_rw h).1 p hp
    exact ⟨isP_nm this.1, fun _ => isP_nm this.2.1⟩
theorem ows_nums {xs : List Mv} (h : mvalid xs = true) : ∃ S R C : Nat, S + R ≤ 9 ∧ C ≤ 1000 ∧ (owS xs).length = S ∧ cwI xs = (S : Int) ∧ countI xs = ((S + R : Nat) : Int) ∧ (ringsB xs).length = R ∧ cioI xs = ((S + R + C : Nat) : Int) ∧
    pmH (tcB (owS xs)) ⟨#[116]⟩ = false ∧ pmH (tcB (owS xs)) ⟨#[117]⟩ = false ∧ svalid (owS xs) = true ∧ irB (owS xs) xs = true := by
  have hMV : MV xs := by simpa [mvalid] using h
  have h1 := owS_len hMV
  have h2 := PS.ringsB_len h
  have hb := busyF_len xs 9
  refine ⟨(owS xs).length, (ringsB xs).length, (closedB xs).length, by omega, closedB_len xs, rfl, ?_, ?_, rfl, ?_, (owS_tch hMV).1, (owS_tch hMV).2, owS_sv hMV, owS_right hMV⟩
  · unfold cwI; rw [if_pos h]; omega
  · unfold countI; rw [if_pos h]; omega
  · unfold cioI; rw [if_pos h]; omega
end Go.PS
namespace Go.PD
open Go.PM Go.RowKit Go.Lib

def slotsL : List UInt8 := [65, 66, 67]
def slB (s : ByteArray) : Bool := match s.data.toList with
  | [c] => decide (c ∈ slotsL)
  | _ => false
theorem slB_one (c : UInt8) : slB ⟨#[c]⟩ = decide (c ∈ slotsL) := rfl
theorem slB_size {s : ByteArray} (h : slB s = true) : s.size = 1 := by
  unfold slB at h; split at h
  · next c hc => rw [← size_data, hc]; rfl
  · cases h
theorem slB_isC {s : ByteArray} (h : slB s = true) : isC s = true := by
  obtain ⟨c, rfl⟩ := one_of_size (slB_size h)
  have h2 : c ∈ slotsL := by simpa [slB] using h
  simp only [slotsL, List.mem_cons, List.not_mem_nil, or_false] at h2
  rcases h2 with rfl | rfl | rfl <;> decide +kernel
abbrev spU : ByteArray := ⟨#[117]⟩
theorem slB_u : slB spU = false := by decide +kernel
theorem isC_u : isC spU = true := by decide +kernel
def far (x : St) : Bool := if x.1 = 1 then slB x.2.1 || slB x.2.2 else slB x.2.1 && slB x.2.2
theorem far_swap (a b : ByteArray) : far (1, a, b) = (slB a || slB b) := if_pos rfl
theorem far_move (k : Int) (a b : ByteArray) (h : ¬ k = 1) : far (k, a, b) = (slB a && slB b) := if_neg h
def dirB (s : List St) : Bool := svalid s && s.all fun x => !far x
def two (x : St) : List St := if far x then [(0, spU, x.2.2), (0, x.2.1, spU)] else [x]
def mkD (s : List St) : List St := s.flatMap two
theorem two_far {x : St} (h : far x = true) : two x = [(0, spU, x.2.2), (0, x.2.1, spU)] := if_pos h
theorem two_near {x : St} (h : far x = false) : two x = [x] := by unfold two; rw [h]; rfl
theorem two_len (x : St) : 1 ≤ (two x).length ∧ (two x).length ≤ 2 := by unfold two; split <;> simp
theorem mkD_snoc (s : List St) (x : St) : mkD (s ++ [x]) = mkD s ++ two x := by simp [mkD]
theorem mkD_take (s : List St) (k : Nat) (hk : k < s.length) : mkD (s.take (k + 1)) = mkD (s.take k) ++ two s[k] := by
  rw [take_snoc s k hk, mkD_snoc]
theorem mkD_len (s : List St) : s.length ≤ (mkD s).length ∧ (mkD s).length ≤ 2 * s.length := by
  induction s with
  | nil => simp [mkD]
  | cons x s ih =>
    have := two_len x
    have e : mkD (x :: s) = two x ++ mkD s := by simp [mkD]
    rw [e, List.length_append, List.length_cons]; omega
theorem mkD_pre (s : List St) (k : Nat) : mkD (s.take k) <+: mkD s :=
  ⟨mkD (s.drop k), by rw [mkD, mkD, mkD, ← List.flatMap_append, List.take_append_drop]⟩
def snB (x : St) : ByteArray := x.2.1 ++ x.2.2
def snL (xs : List St) : List UInt8 := xs.flatMap fun x => (snB x).data.toList
def snT (xs : List St) : ByteArray := ⟨(snL xs).toArray⟩
theorem snT_list (xs : List St) : (snT xs).data.toList = snL xs := by simp [snT]
theorem snT_step (xs : List St) (k : Nat) (hk : k < xs.length) : snT (xs.take k) ++ snB xs[k] = snT (xs.take (k + 1)) := by
  apply ByteArray.ext
  rw [ByteArray.data_append, snT, snT, take_snoc xs k hk]
  unfold snL
  rw [List.flatMap_append]
  simp
theorem ok_sizes {x : St} (h : stOk x = true) : x.2.1.size = 1 ∧ x.2.2.size = 1 := by
  obtain ⟨k, a, b⟩ := x
  rcases stOk_kind h with rfl | rfl
  · exact ⟨isC_size (stOk_move h).1, okC_size (stOk_move h).2⟩
  · exact ⟨isC_size (stOk_swap h).1, isC_size (stOk_swap h).2⟩
theorem snB_size {x : St} (h : stOk x = true) : (snB x).size = 2 := by
  have := ok_sizes h
  unfold snB; rw [ByteArray.size_append]; omega
theorem snT_size {xs : List St} (h : svalid xs = true) (k : Nat) : (snT (xs.take k)).size ≤ 2 * k := by
  induction k with
  | zero => exact Nat.le_refl _
  | succ k ih =>
    by_cases hk : k < xs.length
    · rw [← snT_step xs k hk, ByteArray.size_append]
      have := snB_size (svalid_at h k hk)
      omega
    · rw [List.take_of_length_le (by omega)] at ih ⊢
      omega
theorem snT_full (xs : List St) : snT (xs.take xs.length) = snT xs := by rw [List.take_length]
theorem mem_c {a : ByteArray} (h : a.size = 1) (c : UInt8) : c ∈ a.data.toList ↔ a = ⟨#[c]⟩ := by
  obtain ⟨d, rfl⟩ := one_of_size h
  constructor
  · intro h'; simp at h'; rw [h']
  · intro h'
    have := congrArg (fun s : ByteArray => s.data.toList) h'
    simp at this; simp [this]
theorem snL_mem {xs : List St} (h : ∀ x ∈ xs, stOk x = true) (c : UInt8) : c ∈ snL xs ↔ ∃ x ∈ xs, x.2.1 = ⟨#[c]⟩ ∨ x.2.2 = ⟨#[c]⟩ := by
  unfold snL
  rw [List.mem_flatMap]
  constructor
  · rintro ⟨x, hx, hc⟩
    have hs := ok_sizes (h x hx)
    rw [snB, ByteArray.data_append, Array.toList_append, List.mem_append, mem_c hs.1, mem_c hs.2] at hc
    exact ⟨x, hx, hc⟩
  · rintro ⟨x, hx, hc⟩
    have hs := ok_sizes (h x hx)
    refine ⟨x, hx, ?_⟩
    rw [snB, ByteArray.data_append, Array.toList_append, List.mem_append, mem_c hs.1, mem_c hs.2]
    exact hc
theorem sv_mem {xs : List St} (h : svalid xs = true) : ∀ x ∈ xs, stOk x = true := fun x hx => by
  obtain ⟨k, hk, rfl⟩ := List.getElem_of_mem hx
  exact svalid_at h k hk
def hasU (xs : List St) : Bool := decide ((117 : UInt8) ∈ snL xs)
def swF (x : St) : Bool := decide (x.1 = 1) && far x
def mdB (xs : List St) : Bool := svalid xs && (!hasU xs && (!xs.any swF && decide ((mkD xs).length ≤ 60)))
def mdS (xs : List St) : List St := if mdB xs then mkD xs else []
theorem mdS_yes {xs : List St} (h : mdB xs = true) : mdS xs = mkD xs := if_pos h
theorem mdS_no {xs : List St} (h : mdB xs = false) : mdS xs = [] := by unfold mdS; rw [h]; rfl
def badX (x : St) : Bool := swF x || (decide (x.2.1 = spU) || decide (x.2.2 = spU))
theorem bad_no {xs : List St} (k : Nat) (hk : k < xs.length) (h : badX xs[k] = true) : mdB xs = false := by
  cases hv : svalid xs with
  | false => unfold mdB; rw [hv]; rfl
  | true =>
    have hm : xs[k] ∈ xs := List.getElem_mem hk
    unfold badX at h
    rw [Bool.or_eq_true] at h
    rcases h with h | h
    · have : xs.any swF = true := List.any_eq_true.2 ⟨_, hm, h⟩
      unfold mdB; rw [this]; simp
    · have : hasU xs = true := by
        unfold hasU
        rw [decide_eq_true_eq, snL_mem (sv_mem hv)]
        refine ⟨_, hm, ?_⟩
        simpa using h
      unfold mdB; rw [this]; simp
theorem good_flags {xs : List St} (hv : svalid xs = true) (h : ∀ x ∈ xs, badX x = false) : hasU xs = false ∧ xs.any swF = false := by
  constructor
  · unfold hasU
    rw [decide_eq_false_iff_not, snL_mem (sv_mem hv)]
    rintro ⟨x, hx, e⟩
    have h2 := h x hx
    unfold badX at h2
    rw [Bool.or_eq_false_iff, Bool.or_eq_false_iff, decide_eq_false_iff_not, decide_eq_false_iff_not] at h2
    rcases e with e | e
    · exact h2.2.1 e
    · exact h2.2.2 e
  · rw [List.any_eq_false]
    intro x hx
    have h2 := h x hx
    unfold badX at h2
    rw [Bool.or_eq_false_iff] at h2
    rw [h2.1]; decide
theorem two_ok {x : St} (h : stOk x = true) : ∀ y ∈ two x, stOk y = true := by
  intro y hy
  cases hf : far x with
  | false => rw [two_near hf, List.mem_singleton] at hy; rw [hy]; exact h
  | true =>
    rw [two_far hf] at hy
    have hs : swF x = true ∨ (slB x.2.1 = true ∧ slB x.2.2 = true) := by
      unfold far at hf
      split at hf
      · next h1 => exact .inl (by unfold swF far; rw [if_pos h1, hf, decide_eq_true h1]; rfl)
      · rw [Bool.and_eq_true] at hf; exact .inr hf
    obtain ⟨k, a, b⟩ := x
    simp only [List.mem_cons, List.not_mem_nil, or_false] at hy
    have hb : isC b = true ∨ isD b = true := by
      rcases stOk_kind h with rfl | rfl
      · have := (stOk_move h).2
        unfold okC at this; simpa using this
      · exact .inl (stOk_swap h).2
    have ha : isC a = true := by
      rcases stOk_kind h with rfl | rfl
      · exact (stOk_move h).1
      · exact (stOk_swap h).1
    rcases hy with rfl | rfl
    · unfold stOk
      simp only [isC_u, Bool.true_and]
      rcases hb with hb | hb <;> simp [hb]
    · unfold stOk
      simp [ha, isC_u]
theorem mkD_ok {xs : List St} (h : ∀ x ∈ xs, stOk x = true) : ∀ y ∈ mkD xs, stOk y = true := by
  intro y hy
  unfold mkD at hy
  obtain ⟨x, hx, hy⟩ := List.mem_flatMap.1 hy
  exact two_ok (h x hx) y hy
theorem mkD_valid {xs : List St} (hv : svalid xs = true) : svalid (mkD xs) = decide ((mkD xs).length ≤ 60) :=
  svalid_all fun _k hk => mkD_ok (sv_mem hv) _ (List.getElem_mem hk)
theorem md_good {xs : List St} (h : ∀ x ∈ xs, badX x = false) : mdB xs = (svalid xs && svalid (mkD xs)) := by
  cases hv : svalid xs with
  | false => unfold mdB; rw [hv]; rfl
  | true =>
    obtain ⟨h1, h2⟩ := good_flags hv h
    unfold mdB; rw [hv, h1, h2, mkD_valid hv]; rfl
theorem md_im {xs : List St} (hv : svalid xs = true) (hu : hasU xs = false) (hs : xs.any swF = false) : mdB xs = decide ((mkD xs).length ≤ 60) := by
  unfold mdB; rw [hv, hu, hs]; rfl
theorem md_hasU {xs : List St} (h : hasU xs = true) : mdB xs = false := by unfold mdB; rw [h]; simp
theorem md_swF {xs : List St} (h : xs.any swF = true) : mdB xs = false := by unfold mdB; rw [h]; simp
theorem md_inv {xs : List St} (h : svalid xs = false) : mdB xs = false := by unfold mdB; rw [h]; rfl
theorem dir_all {xs : List St} (h : ∀ k (hk : k < xs.length), far xs[k] = false) : dirB xs = svalid xs := by
  have : (xs.all fun x => !far x) = true := List.all_eq_true.2 fun x hx => by
    obtain ⟨k, hk, rfl⟩ := List.getElem_of_mem hx
    rw [h k hk]; rfl
  unfold dirB; rw [this, Bool.and_true]
theorem far_kind {x : St} (hv : stOk x = true) (hs : swF x = false) (hf : far x = true) : x.1 = 0 := by
  obtain ⟨k, a, b⟩ := x
  rcases stOk_kind hv with h | h
  · exact h
  · unfold swF at hs; rw [hf, decide_eq_true (show ((k, a, b) : St).1 = 1 from h)] at hs; cases hs
def trS (f : St → Nat) (xs : List St) : Nat := (xs.map f).sum
end Go.PD
namespace Go.PD
open Go.PM Go.RowKit Go.Lib
theorem isC_okC {a : ByteArray} (h : isC a = true) : okC a = true := by unfold okC; rw [h]; rfl
end Go.PD
namespace Go.PD
open Go.PM Go.RowKit Go.Lib
def agU (f g : Nat → UInt8) : Prop := ∀ c, c < 10 → f c = g c
theorem cidx_u : cidx spU = 10 := by decide +kernel
theorem cidx_inj {a b : ByteArray} (ha : isC a = true) (hb : isC b = true) (e : cidx a = cidx b) : a = b := by
  obtain ⟨c, rfl⟩ := one_of_size (isC_size ha)
  obtain ⟨d, rfl⟩ := one_of_size (isC_size hb)
  have h1 := (cidx_one (c := c) (by simpa [isC] using ha)).2.2
  have h2 := (cidx_one (c := d) (by simpa [isC] using hb)).2.2
  rw [e] at h1
  rw [← h1, h2]
theorem cidx_lt10 {a : ByteArray} (ha : isC a = true) (hne : a ≠ spU) : cidx a < 10 := by
  have h1 := cidx_lt ha
  have h2 : cidx a ≠ 10 := fun e => hne (cidx_inj ha isC_u (e.trans cidx_u.symm))
  omega
theorem rdS_ag {f g : Nat → UInt8} (h : agU f g) {a : ByteArray} (_ha : okC a = true) (hne : a ≠ spU) : rdS f a = rdS g a := by
  by_cases hc : isC a = true
  · rw [rdS_cell hc, rdS_cell hc]; exact h _ (cidx_lt10 hc hne)
  · have hc' : isC a = false := by simpa using hc
    rw [rdS_digit hc', rdS_digit hc']
theorem doS_mv (a b : ByteArray) (f : Nat → UInt8) : doS (0, a, b) f = updS f (cidx a) (rdS f b) := if_neg (fun h => absurd (show (0 : Int) = 1 from h) (by decide))
theorem doS_sw1 (a b : ByteArray) (f : Nat → UInt8) : doS (1, a, b) f = Go.PM.swS f (cidx a) (cidx b) := if_pos rfl
theorem doS_ag {x : St} (hx : stOk x = true) (h1 : x.2.1 ≠ spU) (h2 : x.2.2 ≠ spU) {f g : Nat → UInt8} (h : agU f g) : agU (doS x f) (doS x g) := by
  obtain ⟨k, a, b⟩ := x
  intro c hc
  rcases stOk_kind hx with rfl | rfl
  · rw [doS_mv, doS_mv, rdS_ag h (stOk_move hx).2 h2]
    unfold updS
    split
    · rfl
    · exact h c hc
  · rw [doS_sw1, doS_sw1]
    have i1 := cidx_lt10 (stOk_swap hx).1 h1
    have i2 := cidx_lt10 (stOk_swap hx).2 h2
    unfold Go.PM.swS
    split
    · exact h _ i2
    · split
      · exact h _ i1
      · exact h c hc
theorem doS_far {a b : ByteArray} (_ha : slB a = true) (hb : slB b = true) {f g : Nat → UInt8} (h : agU f g) : agU (doS (0, a, spU) (doS (0, spU, b) f)) (doS (0, a, b) g) := by
  have hbu : b ≠ spU := fun e => by rw [e, slB_u] at hb; cases hb
  intro c hc
  rw [doS_mv, doS_mv, doS_mv]
  have e1 : rdS (updS f (cidx spU) (rdS f b)) spU = rdS f b := by
    rw [rdS_cell isC_u]; unfold updS; rw [if_pos rfl]
  rw [e1, rdS_ag h (isC_okC (slB_isC hb)) hbu]
  show (if c = cidx a then _ else _) = (if c = cidx a then _ else _)
  split
  · rfl
  · unfold updS
    rw [if_neg (by rw [cidx_u]; omega)]
    exact h c hc
def fold (xs : List St) (f : Nat → UInt8) : Nat → UInt8 := xs.foldl (fun g x => doS x g) f
theorem runS_fold (xs : List St) (f : Nat → UInt8) : runS xs xs.length f = fold xs f := by unfold runS fold; rw [List.take_length]
theorem fold_two {x : St} (hx : stOk x = true) (hb : badX x = false) {f g : Nat → UInt8} (h : agU f g) : agU (fold (two x) f) (doS x g) := by
  unfold badX at hb
  rw [Bool.or_eq_false_iff, Bool.or_eq_false_iff, decide_eq_false_iff_not, decide_eq_false_iff_not] at hb
  cases hf : far x with
  | false => rw [two_near hf]; exact doS_ag hx hb.2.1 hb.2.2 h
  | true =>
    rw [two_far hf]
    have hk := far_kind hx hb.1 hf
    obtain ⟨k, a, b⟩ := x
    obtain rfl : k = 0 := hk
    rw [far_move 0 a b (by decide), Bool.and_eq_true] at hf
    exact doS_far hf.1 hf.2 h
theorem fold_mkD : ∀ (xs : List St) {f g : Nat → UInt8}, (∀ x ∈ xs, stOk x = true ∧ badX x = false) → agU f g → agU (fold (mkD xs) f) (fold xs g)
  | [], _, _, _, h => h
  | x :: xs, f, g, hx, h => by
    have e : mkD (x :: xs) = two x ++ mkD xs := by simp [mkD]
    rw [e]
    unfold fold
    rw [List.foldl_append, List.foldl_cons]
    have h1 := hx x (List.mem_cons_self ..)
    exact fold_mkD xs (fun y hy => hx y (List.mem_cons_of_mem _ hy)) (fold_two h1.1 h1.2 h)
theorem md_bad {xs : List St} (h : mdB xs = true) : ∀ x ∈ xs, badX x = false := fun x hx => by
  obtain ⟨k, hk, rfl⟩ := List.getElem_of_mem hx
  cases hb : badX xs[k] with
  | false => rfl
  | true => rw [bad_no k hk hb] at h; cases h
theorem md_sv {xs : List St} (h : mdB xs = true) : svalid xs = true ∧ svalid (mkD xs) = true := by
  have := md_good (md_bad h)
  rw [h] at this
  rw [← Bool.and_eq_true]; exact this.symm
theorem md_effG {xs : List St} (h : mdB xs = true) (p : Nat) (hp : p < 9) : effG (mkD xs) p = effG xs p := by
  unfold effG
  rw [runS_fold, runS_fold]
  exact fold_mkD xs (fun x hx => ⟨sv_mem (md_sv h).1 x hx, md_bad h x hx⟩) (fun _ _ => rfl) p (by omega)
theorem two_dir (x : St) : ∀ y ∈ two x, far y = false := by
  intro y hy
  cases hf : far x with
  | false => rw [two_near hf, List.mem_singleton] at hy; rw [hy]; exact hf
  | true =>
    rw [two_far hf] at hy
    simp only [List.mem_cons, List.not_mem_nil, or_false] at hy
    rcases hy with rfl | rfl
    · rw [far_move 0 _ _ (by decide), slB_u]; rfl
    · rw [far_move 0 _ _ (by decide), slB_u, Bool.and_false]
theorem mkD_dir (xs : List St) : ∀ y ∈ mkD xs, far y = false := by
  intro y hy
  unfold mkD at hy
  obtain ⟨x, _, hy⟩ := List.mem_flatMap.1 hy
  exact two_dir x y hy
theorem md_dir {xs : List St} (h : mdB xs = true) : dirB (mkD xs) = true := by
  rw [dir_all (fun k hk => mkD_dir xs _ (List.getElem_mem hk))]
  exact (md_sv h).2
end Go.PD
namespace Go.PM
open Go.RowKit
variable {F : Fence} {n : Nat} {P : Program}
def IterQ {α : Type} (Pr : World → Prop) (F : Fence) (n : Nat) (P : Program) (gf : Nat) (mk : Value → Array Value) (encs : α → Array Value) (xs : List α) : Prop :=
  ∀ (l : Nat) (J : Option Nat → List α → World → Prop) (r0 : Option Nat) (W : World),
    (∀ r, OwnFrom W.heap.size (J r)) → (∀ r pre A, J r pre A → Pr A ∧ ∀ g, r = some g → g < A.heap.size) →
    (∀ r pre A A' b, J r pre A → W.heap.size ≤ b → some b ≠ r → A.grownBy A' (some b) → J r pre A') →
    (∀ r pre x A, J r pre A → W.heap.size ≤ A.heap.size → pre ++ [x] <+: xs → YieldAt F (n - 1) P l (encs x) A fun e A' =>
      e = .returned (.bool true) ∧ ∃ r', J r' (pre ++ [x]) A' ∧ RowStep W.heap.size r r' A A') →
    J r0 [] W →
    CallsIn F n P gf (mk (.func (.yield l) #[] #[])) W fun e W' => (∃ v, e = .returned v) ∧ ∃ r, J r xs W'
theorem range_lawQ {α : Type} {Pr : World → Prop} {g : Operand} {ps : Array Tmp} {assign body : Code} {Q : Exit → Act → World → Prop} {a : Act} {w : World} (hro : F.round = none) (h1 : 1 ≤ n)
    {gf : Nat} {lf lb : Array Value} (hg : a.eval g = .func (.func gf) lf lb) (hFg : F.fn gf) (eg : ∀ args w, (callFunc gf args).run P w = .ok (.enter gf args) w)
    {encs : α → Array Value} {xs : List α} (hit : IterQ Pr F (n - 1) P gf (fun y => lf ++ #[y] ++ lb) encs xs) (hps : ∀ x, (encs x).size = ps.size)
    (I : Option Nat → List α → World → Prop) (r0 : Option Nat) (hPr : ∀ r pre A, I r pre A → Pr A ∧ ∀ g, r = some g → ∃ o : Obj, A.heap[g]? = some o ∧ o.isCells = true)
    (hIW : ∀ r pre A A' b, I r pre A → w.heap.size + 2 ≤ b → some b ≠ r → A.grownBy A' (some b) → I r pre A') (hI : ∀ r, OwnFrom w.heap.size (I r)) (h0 : I r0 [] w) (Ax : α → Act → World → Prop) (hAx : ∀ x a', OwnFrom w.heap.size (fun (_ : Unit) W => Ax x a' W))
    (hassign : ∀ (l : Nat) (r : Option Nat) (pre : List α) (x : α) (W : World) (K : Act → World → Prop), I r pre W → pre ++ [x] <+: xs → w.heap.size + 2 ≤ W.heap.size → (∀ a' W', Below W.heap.size W W' → I r pre W' → Ax x a' W' → K a' W') →
      assign.wpIn (F.inRound l) (n - 1 - 1) P (Exit.then K (fun _ _ _ => False)) { tmps := (ps.zip (encs x)).foldl (fun t (p, v) => t.setIfInBounds p v) a.tmps, defers := [] } W)
    (hbody : ∀ (l : Nat) (r : Option Nat) (pre : List α) (x : α) (a' : Act) (W : World), I r pre W → Ax x a' W → pre ++ [x] <+: xs → w.heap.size + 2 ≤ W.heap.size → body.wpIn (F.inRound l) (n - 1 - 1) P (postR w.heap.size I (pre ++ [x]) r W) a' W)
    (hdone : ∀ (D : Nat) (r : Option Nat) (W : World), w.heap.size ≤ D → I r xs W → W.heap[D]? = some (.deferred (some [])) → Q .normal { a with defers := { target := .collected D, args := #[] } :: a.defers } W) :
    (Code.rangeFunc g ps assign body).wpIn F n P Q a w := by
  refine wpIn_rangeFunc fun fn hfn => ?_
  rw [hro]
  have key : ∃ rc : LoopState → Option Code → Loop, rc = fun s j => { state := s, pending := j, fn, tmps := a.tmps, params := ps, assign, body, defers := w.heap.size } := ⟨_, rfl⟩
  obtain ⟨rc, hrc⟩ := key
  let V := (w.alloc (.deferred (some []))).alloc (.loop (rc .ready none))
  let Bk : LoopState → Option Code → World → Prop := fun s j A => A.heap[w.heap.size + 1]? = some (.loop (rc s j)) ∧ A.heap[w.heap.size]? = some (.deferred (some []))
  have bkput : ∀ {s j s' j' A}, Bk s j A → Bk s' j' (A.putObj (w.heap.size + 1) (.loop (rc s' j'))) := fun h =>
    ⟨World.putObj_heap_same (Array.getElem?_eq_some_iff.1 h.1).1, (World.putObj_heap_other (by omega)).trans h.2⟩
  have hVs : V.heap.size = w.heap.size + 2 := by simp [V, World.size_alloc]
  have bknew : ∀ {s j A A' row}, Bk s j A → A.grownBy A' row → (∀ r, row = some r → V.heap.size ≤ r ∧ ∃ o : Obj, A.heap[r]? = some o ∧ o.isCells = false) → Bk s j A' := fun h hg' hr =>
    ⟨(hg'.block _ (Array.getElem?_eq_some_iff.1 h.1).1 (fun e => by have := (hr _ e.symm).1; omega)).trans h.1, (hg'.block _ (Array.getElem?_eq_some_iff.1 h.2).1 (fun e => by have := (hr _ e.symm).1; omega)).trans h.2⟩
  have hV : Bk .ready none V := by
    refine ⟨?_, ?_⟩
    · have := World.alloc_heap_new (w.alloc (.deferred (some []))) (.loop (rc .ready none)); rwa [World.size_alloc] at this
    · exact (Below.heap_alloc _ _ _ (by simp)).trans (World.alloc_heap_new w _)
  have hIV : I r0 [] V := (hI r0).alloc _ ((hI r0).alloc _ h0)
  refine ⟨w.heap.size + 1, [{ target := .collected w.heap.size, args := #[] }], V, { target := .fn (.func gf) lb, args := lf ++ #[.func (.yield (w.heap.size + 1)) #[] #[]] }, V, gf,
    lf ++ #[.func (.yield (w.heap.size + 1)) #[] #[]] ++ lb, V, ?_, ?_, ?_, ?_, fun _ => h1, ?_⟩
  · have := run_enterLoop_outer (P := P) (w := w) fn a.tmps ps assign body
    rw [this]; simp only [V, hrc]
  · simp only [resolve, hg]
    simp [go_sem]
  · intro f' hf'
    simp [Target.leads] at hf'
    subst hf'; exact hFg
  · simp [invoke, go_sem, eg]
  refine (hit (w.heap.size + 1) (fun r pre A => I r pre A ∧ Bk .ready none A) r0 V
    (fun r pre A A' row h hg' hr => ⟨hI r pre A A' row h.1 hg' (fun q e => ⟨by have := (hr q e).1; omega, (hr q e).2⟩), bknew h.2 hg' hr⟩)
    (fun r pre A h => ⟨(hPr r pre A h.1).1, fun g e => by obtain ⟨o, ho, _⟩ := (hPr r pre A h.1).2 g e; exact (Array.getElem?_eq_some_iff.1 ho).1⟩)
    (fun r pre A A' b h hb hne hg' => ⟨hIW r pre A A' b h.1 (by omega) hne hg', (hg'.block _ (Array.getElem?_eq_some_iff.1 h.2.1).1 (fun e => by cases e; omega)).trans h.2.1, (hg'.block _ (Array.getElem?_eq_some_iff.1 h.2.2).1 (fun e => by cases e; omega)).trans h.2.2⟩) ?_ ⟨hIV, hV⟩).mono ?_
  · rintro r pre x A ⟨hi, hb⟩ hsz hpx
    have hy := run_yield (P := P) (args := encs x) hb.1 (by rw [hrc]; exact hps x)
    rw [hrc] at hy
    refine ⟨fn, _, assign, body, hy, roundIn_of_wpIn hfn (hassign _ r pre x A _ hi hpx (by omega) ?_)⟩
    intro a' Wa hbl hia hax
    have hlt := (Array.getElem?_eq_some_iff.1 hb.1).1
    replace hb : Bk .ready none Wa := ⟨(hbl.block _ hlt).trans hb.1, (hbl.block _ (by omega)).trans hb.2⟩
    clear hy hi
    refine ⟨_, run_beginRound hb.1 (by rw [hrc]), ?_⟩
    have hszA : A.heap.size ≤ Wa.heap.size := hbl.size
    have hb2 : Bk .busy none (Wa.putObj (w.heap.size + 1) (.loop (rc .busy none))) := bkput hb
    have e2 : ({ rc .ready none with state := .busy } : Loop) = rc .busy none := by rw [hrc]
    rw [e2]
    have hib := (hI r).putObj (.loop (rc .busy none)) hia (by omega) hb.1 rfl
    have hrr := (hPr r pre _ hib).2
    refine wpIn_mono (hbody _ r pre x a' _ hib ((hAx x a').putObj (s := ()) _ hax (by omega) hb.1 rfl) hpx (by simp [World.putObj]; omega)) ?_
    rintro e a3 C hp
    cases e with
    | normal =>
      obtain ⟨r', hi3, hst⟩ := hp
      have hne : ∀ k, w.heap.size ≤ k → k < w.heap.size + 2 → some k ≠ r := fun k hk1 hk2 e => by
        obtain ⟨o, ho, hoc⟩ := hrr k e.symm
        have : k = w.heap.size ∨ k = w.heap.size + 1 := by omega
        rcases this with rfl | rfl
        · rw [hb2.2] at ho; cases ho; cases hoc
        · rw [hb2.1] at ho; cases ho; cases hoc
      have s0 : (Wa.putObj (w.heap.size + 1) (.loop (rc .busy none))).heap.size = Wa.heap.size := by simp [World.putObj]
      have hb3 : Bk .busy none C := ⟨(hst.same _ (by omega) (by omega) (hne _ (by omega) (by omega))).trans hb2.1, (hst.same _ (by omega) (by omega) (hne _ (by omega) (by omega))).trans hb2.2⟩
      have h3 : (Instr.endRound (w.heap.size + 1) none).run P C = .ok (.bool true) (C.putObj (w.heap.size + 1) (.loop (rc .ready none))) := by
        rw [run_endRound (P := P) none hb3.1]; rw [hrc]; rfl
      refine ⟨_, _, h3, rfl, r', ⟨(hI r').putObj _ hi3 (by omega) hb3.1 rfl, bkput hb3⟩, ?_, ?_, ?_⟩
      · have := hst.size; simp [World.putObj] at this ⊢; omega
      · intro k hk1 hk2 hk3
        rw [World.putObj_heap_other (by omega), hst.same k (by omega) (by omega) hk3, World.putObj_heap_other (by omega)]
        exact hbl.block k hk2
      · rcases hst.row with h | h
        · exact .inl h
        · exact .inr fun g e => by have := h g e; omega
    | ret => exact hp.elim
    | exit id => exact hp.elim
    | goto t => exact hp.elim
    | panic ch => exact hp.elim
    | outgrown => exact hp.elim
  · rintro e C ⟨⟨v, rfl⟩, r, hi, hb⟩
    have h3 := run_endLoop (P := P) hb.1 (by rw [hrc]; simp)
    exact ⟨none, _, by rw [h3, hrc], hdone _ r _ (Nat.le_refl _) ((hI r).putObj _ hi (by omega) hb.1 rfl) ((World.putObj_heap_other (by omega)).trans hb.2)⟩
end Go.PM
namespace Go.Proofs.YtfedloljhocpgaaGreatDoor
open Go.RowKit Go.PM Go.PD Go.Lib

theorem isSlot_c (s : ByteArray) (w : World) :
    Calls Tryz.prog 282 #[.string s] w fun e w' => e = .returned (.bool (slB s)) ∧ w = w' := by
  cases hs : slB s with
  | true =>
    obtain ⟨c, rfl⟩ := one_of_size (slB_size hs)
    have hm : c ∈ slotsL := by simpa [slB] using hs
    obtain ⟨i, hi⟩ := Int.eq_ofNat_of_zero_le ((indexByte_mem slotsL c).2 hm)
    have h5 := fun W => positionIn_yes ⟨#[65, 66, 67]⟩ c i hi W
    clear hs hm hi
    go_enter Tryz.func282, Tryz.ntmps282
    go_wp2_with (go_at_call 101; refine (h5 _).mono ?_; rintro e w' ⟨rfl, rfl⟩)
    go_ret
    exact ⟨rfl, rfl⟩
  | false =>
    have h5 := fun W => positionIn_no ⟨#[65, 66, 67]⟩ s (fun c hc hm => by
      subst hc
      have : slB ⟨#[c]⟩ = true := by rw [slB_one]; exact decide_eq_true hm
      rw [hs] at this; cases this) W
    clear hs
    go_enter Tryz.func282, Tryz.ntmps282
    go_wp2_with (go_at_call 101; refine (h5 _).mono ?_; rintro e w' ⟨rfl, rfl⟩)
    go_ret
    exact ⟨rfl, rfl⟩
def opV (b : Bool) : Value := .iface (if b then 318 else 319) (.agg #[])
theorem opV_yes : opV true = .iface 318 (.agg #[]) := rfl
theorem opV_no : opV false = .iface 319 (.agg #[]) := rfl
theorem operandOf_c (s : ByteArray) (w : World) :
    Calls Tryz.prog 261 #[.string s] w fun e w' => e = .returned (opV (slB s)) ∧ w = w' := by
  have hc := fun W => isSlot_c s W
  generalize slB s = b at *
  cases b
  all_goals
    go_enter Tryz.func261, Tryz.ntmps261
    go_wp2_with (go_at_call 282; refine (hc _).mono ?_; rintro e w' ⟨rfl, rfl⟩)
    go_ret
    exact ⟨rfl, rfl⟩
set_option maxHeartbeats 800000 in
theorem operands_c (k : Int) (a b : ByteArray) (w : World) :
    Calls Tryz.prog 181 #[.agg #[.int .i64 k, .string a, .string b]] w fun e w' => e = .returned (.tuple #[opV (slB a), opV (slB b)]) ∧ Below w.heap.size w w' := by
  have HC := Lib.hid (fun s W => operandOf_c s W)
  have hA := At.new w 58 #[.int .i64 k, .string a, .string b]
  have hC1 : ∀ x : Ext (w.heap.size + 1) (w.alloc (.cells #[.int .i64 k, .string a, .string b] 58)), x.val.cell? ⟨w.heap.size, 1, none⟩ = some (.string a) := fun x => (x.property.cell (p := ⟨w.heap.size, 1, none⟩) (by simp)).trans (hA.cell 1)
  have hC2 : ∀ x : Ext (w.heap.size + 1) (w.alloc (.cells #[.int .i64 k, .string a, .string b] 58)), x.val.cell? ⟨w.heap.size, 2, none⟩ = some (.string b) := fun x => (x.property.cell (p := ⟨w.heap.size, 2, none⟩) (by simp)).trans (hA.cell 2)
  clear hA
  go_enter Tryz.func181, Tryz.ntmps181
  go_wp2
  refine wp_region_ext (w.heap.size + 1) (by kernel_rfl) (by kernel_rfl) ?_
  repeat (go_big_quiet_step ((go_at_call 261; exact ext_same _ (HC.out _ _))))
  refine wpQuiet_nil ?_
  intro w2 hw'
  obtain ⟨xw, hxw⟩ := hw'
  have hb2 := xw.property
  rw [← hxw] at hb2
  clear hxw xw
  have hB : Below w.heap.size w w2 := ((Below.refl _ _).alloc (Nat.le_refl _) _).trans (hb2.mono (by omega))
  go_wp2
  go_ret2
  exact ⟨rfl, hB⟩
theorem slotSlots_c (w : World) : Calls Tryz.prog 410 #[.agg #[]] w fun e w' => e = .returned (.int .i64 1) ∧ Below w.heap.size w w' := by
  go_enter Tryz.func410, Tryz.ntmps410
  go_wp2
  go_ret
  exact ⟨rfl, by (repeat' (first | (with_reducible exact Below.refl _ _) | (with_reducible assumption) | (with_reducible refine Below.alloc ?_ ?_ _) | (with_reducible refine Below.drew ?_) | (with_reducible refine Below.setCell ?_ ?_ _) | (with_reducible exact Nat.le_refl _) | omega | ((repeat (first | rewrite [World.size_alloc] | rewrite [World.size_setCell] | rewrite [World.size_drew])); omega) | (simp; omega) | (simp; done)))⟩
theorem regSlots_c (w : World) : Calls Tryz.prog 412 #[.agg #[]] w fun e w' => e = .returned (.int .i64 0) ∧ Below w.heap.size w w' := by
  go_enter Tryz.func412, Tryz.ntmps412
  go_wp2
  go_ret
  exact ⟨rfl, by (repeat' (first | (with_reducible exact Below.refl _ _) | (with_reducible assumption) | (with_reducible refine Below.alloc ?_ ?_ _) | (with_reducible refine Below.drew ?_) | (with_reducible refine Below.setCell ?_ ?_ _) | (with_reducible exact Nat.le_refl _) | omega | ((repeat (first | rewrite [World.size_alloc] | rewrite [World.size_setCell] | rewrite [World.size_drew])); omega) | (simp; omega) | (simp; done)))⟩
theorem regTakes_c (v : Value) (w : World) : Calls Tryz.prog 413 #[.agg #[], v] w fun e w' => e = .returned (.bool true) ∧ Below w.heap.size w w' := by
  go_enter Tryz.func413, Tryz.ntmps413
  go_wp2
  go_ret
  exact ⟨rfl, by (repeat' (first | (with_reducible exact Below.refl _ _) | (with_reducible assumption) | (with_reducible refine Below.alloc ?_ ?_ _) | (with_reducible refine Below.drew ?_) | (with_reducible refine Below.setCell ?_ ?_ _) | (with_reducible exact Nat.le_refl _) | omega | ((repeat (first | rewrite [World.size_alloc] | rewrite [World.size_setCell] | rewrite [World.size_drew])); omega) | (simp; omega) | (simp; done)))⟩
set_option maxRecDepth 100000 in
theorem slotTakes_c (b : Bool) (w : World) : Calls Tryz.prog 411 #[.agg #[], opV b] w fun e w' => e = .returned (.bool (!b)) ∧ Below w.heap.size w w' := by
  have HY : ∀ W : World, (Instr.typeAssert (.iface 318 (.agg #[])) 221 318 true).run Tryz.prog W = .ok (.tuple #[.agg #[], .bool true]) W := fun _ => by kernel_rfl
  have HN : ∀ W : World, (Instr.typeAssert (.iface 319 (.agg #[])) 221 318 true).run Tryz.prog W = .ok (.tuple #[.agg #[], .bool false]) W := fun _ => by kernel_rfl
  cases b
  all_goals
    first | rw [opV_yes] | rw [opV_no]
    go_enter Tryz.func411, Tryz.ntmps411
    go_wp2
    go_ret
    exact ⟨rfl, by (repeat' (first | (with_reducible exact Below.refl _ _) | (with_reducible assumption) | (with_reducible refine Below.alloc ?_ ?_ _) | (with_reducible refine Below.drew ?_) | (with_reducible refine Below.setCell ?_ ?_ _) | (with_reducible exact Nat.le_refl _) | omega | ((repeat (first | rewrite [World.size_alloc] | rewrite [World.size_setCell] | rewrite [World.size_drew])); omega) | (simp; omega) | (simp; done)))⟩
set_option maxRecDepth 100000 in
set_option maxHeartbeats 1600000 in
theorem direct_c (k : Int) (a b : ByteArray) (w : World) :
    Calls Tryz.prog 152 #[.agg #[.int .i64 k, .string a, .string b]] w fun e w' => e = .returned (.bool (!far (k, a, b))) ∧ Below w.heap.size w w' := by
  have HMS : ∀ (n : Nat) (w : World), (method (n + 1) 318 (.agg #[]) "loop.example/parallelmoves/impl.slots").run Tryz.prog w = .ok (410, .agg #[]) w := fun _ _ => by kernel_rfl
  have HMR : ∀ (n : Nat) (w : World), (method (n + 1) 319 (.agg #[]) "loop.example/parallelmoves/impl.slots").run Tryz.prog w = .ok (412, .agg #[]) w := fun _ _ => by kernel_rfl
  have HTS : ∀ (n : Nat) (w : World), (method (n + 1) 318 (.agg #[]) "loop.example/parallelmoves/impl.takes").run Tryz.prog w = .ok (411, .agg #[]) w := fun _ _ => by kernel_rfl
  have HTR : ∀ (n : Nat) (w : World), (method (n + 1) 319 (.agg #[]) "loop.example/parallelmoves/impl.takes").run Tryz.prog w = .ok (413, .agg #[]) w := fun _ _ => by kernel_rfl
  have HO := Lib.hid (fun W => operands_c k a b W)
  have hA := At.new w 58 #[.int .i64 k, .string a, .string b]
  have hB0 : Below w.heap.size w (w.alloc (.cells #[.int .i64 k, .string a, .string b] 58)) := (Below.refl _ _).alloc (Nat.le_refl _) _
  have HF1 := Lib.hid (far_swap a b)
  have HF2 := Lib.hid (fun h => far_move k a b h)
  generalize slB a = ba at *
  generalize slB b = bb at *
  by_cases h1 : k = 1
  · subst h1
    cases ba <;> cases bb
    all_goals
      go_enter Tryz.func152, Tryz.ntmps152
      go_wp2_with fail
      refine (HO.out _).mono ?_
      rintro e w1 ⟨rfl, hb1⟩
      first | rw [opV_yes] | skip
      first | rw [opV_no] | skip
      have hA1 := hA.keep hb1
      have hB1 := hB0.trans (hb1.mono (by simp))
      have q1 : w1.cell? ⟨w.heap.size, 0, none⟩ = some (.int .i64 1) := hA1.cell 0
      have hs1 := hB1.size
      clear hA hB0 hb1 hA1
      go_wp2_with (first | (go_at_call 410; refine held ?_) | (go_at_call 412; refine held ?_))
      unfold Held
      first | refine (slotSlots_c _).mono ?_ | refine (regSlots_c _).mono ?_
      rintro e w2 ⟨rfl, hb2⟩
      have hB2 := hB1.trans (hb2.mono hs1)
      have hs2 := hB2.size
      clear hb2 hB1 q1
      go_wp2_with (first | (go_at_call 410; refine held ?_) | (go_at_call 412; refine held ?_))
      unfold Held
      first | refine (slotSlots_c _).mono ?_ | refine (regSlots_c _).mono ?_
      rintro e w3 ⟨rfl, hb3⟩
      have hB3 := hB2.trans (hb3.mono hs2)
      clear hb3 hB2
      go_wp2
      go_ret
      exact ⟨by rw [HF1.out]; rfl, hB3⟩
  · have t1 : (k == 1) = false := by simpa using h1
    have HFF := Lib.hid (HF2.out h1)
    clear h1
    cases ba with
    | false =>
      go_enter Tryz.func152, Tryz.ntmps152
      go_wp2_with fail
      refine (HO.out _).mono ?_
      rintro e w1 ⟨rfl, hb1⟩
      have hA1 := hA.keep hb1
      have hB1 := hB0.trans (hb1.mono (by simp))
      have q1 : w1.cell? ⟨w.heap.size, 0, none⟩ = some (.int .i64 k) := hA1.cell 0
      have hs1 := hB1.size
      first | rw [opV_yes] | rw [opV_no]
      generalize opV bb = vb at *
      clear hA hB0 hb1 hA1
      go_wp2_with (go_at_call 413; refine held ?_)
      unfold Held
      refine (regTakes_c _ _).mono ?_
      rintro e w2 ⟨rfl, hb2⟩
      have hB2 := hB1.trans (hb2.mono hs1)
      clear hb2 hB1 q1
      go_wp2
      go_ret
      exact ⟨by rw [HFF.out]; rfl, hB2⟩
    | true =>
      go_enter Tryz.func152, Tryz.ntmps152
      go_wp2_with fail
      refine (HO.out _).mono ?_
      rintro e w1 ⟨rfl, hb1⟩
      have hA1 := hA.keep hb1
      have hB1 := hB0.trans (hb1.mono (by simp))
      have q1 : w1.cell? ⟨w.heap.size, 0, none⟩ = some (.int .i64 k) := hA1.cell 0
      have hs1 := hB1.size
      first | rw [opV_yes] | rw [opV_no]
      have HTK := Lib.hid (fun W => slotTakes_c bb W)
      generalize opV bb = vb at *
      clear hA hB0 hb1 hA1
      go_wp2_with (go_at_call 411; refine held ?_)
      unfold Held
      refine (HTK.out _).mono ?_
      rintro e w2 ⟨rfl, hb2⟩
      have hB2 := hB1.trans (hb2.mono hs1)
      clear hb2 hB1 q1
      go_wp2
      go_ret
      exact ⟨by rw [HFF.out]; rfl, hB2⟩
end Go.Proofs.YtfedloljhocpgaaGreatDoor
namespace Go.PD
open Go.PM Go.RowKit
end Go.PD
namespace Go.Proofs.YtfedloljhocpgaaGreatDoor
open Go.RowKit Go.PM Go.PD Go.Lib

set_option maxHeartbeats 800000 in
theorem swapsSlot_c (k : Int) (a b : ByteArray) (w : World) :
    Calls Tryz.prog 107 #[.agg #[.int .i64 k, .string a, .string b]] w fun e w' => e = .returned (.bool (swF (k, a, b))) ∧ Below w.heap.size w w' := by
  have HD := Lib.hid (fun W => direct_c k a b W)
  have hB0 : Below w.heap.size w (w.alloc (.cells #[.int .i64 k, .string a, .string b] 58)) := (Below.refl _ _).alloc (Nat.le_refl _) _
  have hs0 := hB0.size
  by_cases h1 : k = 1
  · subst h1
    have HF : Hid (swF (1, a, b) = far (1, a, b)) := by show _ = _; simp [swF]
    generalize far (1, a, b) = f at *
    cases f
    all_goals
      go_enter Tryz.func107, Tryz.ntmps107
      go_wp2_with (go_at_call 152; refine (HD.out _).mono ?_; rintro e w1 ⟨rfl, hb1⟩)
      go_ret
      exact ⟨by rw [HF.out]; rfl, hB0.trans (hb1.mono (by simp))⟩
  · have t1 : (k == 1) = false := by simpa using h1
    have HF : Hid (swF (k, a, b) = false) := by show _ = _; simp [swF, h1]
    clear h1
    go_enter Tryz.func107, Tryz.ntmps107
    go_wp2
    go_ret
    exact ⟨by rw [HF.out]; rfl, hB0⟩
end Go.Proofs.YtfedloljhocpgaaGreatDoor
namespace Go.PD
open Go.PM Go.RowKit
end Go.PD
namespace Go.Proofs.YtfedloljhocpgaaGreatDoor
open Go.RowKit Go.PM Go.PD Go.Lib

set_option maxRecDepth 100000 in
set_option maxHeartbeats 1600000 in
theorem stepNames_c (xs : List St) (hv : svalid xs = true) (v : Value) (w : World) (hx : RdS w v xs) :
    Calls Tryz.prog 105 #[v] w fun e w' => e = .returned (.string (snT xs)) ∧ Below w.heap.size w w' := by
  obtain ⟨A, cap, rfl, hn, hc, hcell⟩ := hx.open
  have HSZ := Lib.hid (fun k => snT_size hv k)
  have HST := Lib.hid (fun k hk => snT_step xs k hk)
  have HOK := Lib.hid (fun k hk => ok_sizes (svalid_at hv k hk))
  have HF := Lib.hid (snT_full xs)
  have H0 : Hid (snT (xs.take 0) = ⟨#[]⟩) := rfl
  have hlen := svalid_len hv
  clear hv
  go_enter Tryz.func105, Tryz.ntmps105
  go_wp2
  go_loopw [3, 5, 8] (fun o _ i wr => ∃ (k : Nat), k ≤ xs.length ∧ i = .int .i64 k ∧ o = .string (snT (xs.take k)) ∧ Below w.heap.size w wr) (fun _ _ i _ => xs.length - (RowKit.intOf i).toNat)
  case atStart => exact ⟨0, by omega, rfl, by rw [H0.out], Below.refl _ _⟩
  case round =>
    obtain ⟨k, hk, rfl, rfl, hb⟩ := hrel
    have hbs := hb.size
    by_cases hlt : k < xs.length
    · obtain ⟨b, off, rfl, hbl, hc1, hc2, hc3⟩ := hcell k hlt
      have hd1 := (hb.cell (p := ⟨b, off + k * 3, none⟩) hbl).trans hc1
      have hd2 := (hb.cell (p := ⟨b, off + k * 3 + 1, none⟩) hbl).trans hc2
      have hd3 := (hb.cell (p := ⟨b, off + k * 3 + 2, none⟩) hbl).trans hc3
      clear hc1 hc2 hc3 hcell
      have hsz := HSZ.out k
      have hok := HOK.out k hlt
      have hst : snT (xs.take k) ++ (xs[k].2.1 ++ xs[k].2.2) = snT (xs.take (k + 1)) := HST.out k hlt
      generalize xs[k].1 = x1 at *
      generalize xs[k].2.1 = x2 at *
      generalize xs[k].2.2 = x3 at *
      obtain ⟨z1, z2⟩ := hok
      have hz3 : (x2 ++ x3).size = 2 := by rw [ByteArray.size_append]; omega
      have HST2 := Lib.hid hst
      clear hst
      generalize snT (xs.take k) = tk at *
      go_wp2
      go_roundw
      case rel => exact ⟨k + 1, by omega, by go_num, by rw [← HST2.out], hb.alloc hbs _⟩
      case measure => simp [RowKit.intOf]; omega
    · have hk' : k = xs.length := by omega
      subst hk'
      go_wp2
      go_ret
      exact ⟨by rw [← HF.out]; rfl, hb⟩
end Go.Proofs.YtfedloljhocpgaaGreatDoor
namespace Go.Proofs.YtfedloljhocpgaaGreatDoor
open Go.RowKit Go.PM Go.PD Go.Lib
end Go.Proofs.YtfedloljhocpgaaGreatDoor
namespace Go.Proofs.YtfedloljhocpgaaGreatDoor
open Go.RowKit Go.PM Go.PD Go.Lib

set_option maxRecDepth 100000 in
set_option maxHeartbeats 1600000 in
theorem indexSwap_c (xs : List St) (v : Value) (w : World) (hx : RdS w v xs) (hl : xs.length ≤ 1048576) :
    Calls Tryz.prog 151 #[v, .func (.func 107) #[] #[]] w fun e w' => (∃ z : Int, e = .returned (.int .i64 z) ∧ Hid (xs.any swF = decide (0 ≤ z))) ∧ Below w.heap.size w w' := by
  obtain ⟨A, cap, rfl, hn, hc, hcell⟩ := hx.open
  have HS := Lib.hid (fun k a b W => swapsSlot_c k a b W)
  have HY : Hid (∀ k (hk : k < xs.length), swF xs[k] = true → xs.any swF = true) := fun k hk h => List.any_eq_true.2 ⟨_, List.getElem_mem hk, h⟩
  have HN : Hid ((∀ j (hj : j < xs.length), swF xs[j] = false) → xs.any swF = false) := fun h => List.any_eq_false.2 fun x hx => by
    obtain ⟨k, hk, rfl⟩ := List.getElem_of_mem hx
    rw [h k hk]; decide
  go_enter Tryz.func151, Tryz.ntmps151
  go_wp2
  go_loopw [5, 8] (fun _ i wr => ∃ (k : Nat), k ≤ xs.length ∧ i = .int .i64 k ∧ Below w.heap.size w wr ∧ Hid (∀ j (hj : j < k) (hj2 : j < xs.length), swF xs[j] = false)) (fun _ i _ => xs.length - (RowKit.intOf i).toNat)
  case atStart => exact ⟨0, by omega, rfl, Below.refl _ _, fun j hj => by omega⟩
  case round =>
    obtain ⟨k, hk, rfl, hb, hm⟩ := hrel
    have hbs := hb.size
    by_cases hlt : k < xs.length
    · obtain ⟨b, off, rfl, hbl, hc1, hc2, hc3⟩ := hcell k hlt
      have hd1 := (hb.cell (p := ⟨b, off + k * 3, none⟩) hbl).trans hc1
      have hd2 := (hb.cell (p := ⟨b, off + k * 3 + 1, none⟩) hbl).trans hc2
      have hd3 := (hb.cell (p := ⟨b, off + k * 3 + 2, none⟩) hbl).trans hc3
      clear hc1 hc2 hc3 hcell
      have HE : Hid (swF xs[k] = swF (xs[k].1, xs[k].2.1, xs[k].2.2)) := rfl
      have HYK := Lib.hid (HY.out k hlt)
      have HNX : Hid (swF xs[k] = false → ∀ j (hj : j < k + 1) (hj2 : j < xs.length), swF xs[j] = false) := fun h j hj hj2 => by
        by_cases e : j = k
        · subst e; exact h
        · exact hm.out j (by omega) hj2
      have HSS := Lib.hid (fun W => HS.out xs[k].1 xs[k].2.1 xs[k].2.2 W)
      generalize xs[k].1 = x1 at *
      generalize xs[k].2.1 = x2 at *
      generalize xs[k].2.2 = x3 at *
      generalize swF (x1, x2, x3) = f at *
      cases f with
      | true =>
        go_wp2_with (go_at_call 107; refine (HSS.out _).mono ?_; rintro e w3 ⟨rfl, hb3⟩)
        go_ret
        exact ⟨⟨_, rfl, by show _ = _; rw [HYK.out HE.out]; exact (decide_eq_true (by omega)).symm⟩, hb.trans (hb3.mono hbs)⟩
      | false =>
        go_wp2_with (go_at_call 107; refine (HSS.out _).mono ?_; rintro e w3 ⟨rfl, hb3⟩)
        go_roundw
        case rel => exact ⟨k + 1, by omega, by go_num, hb.trans (hb3.mono hbs), HNX.out HE.out⟩
        case measure => simp [RowKit.intOf]; omega
    · have HZZ := Lib.hid (HN.out fun j hj => hm.out j (by omega) hj)
      go_wp2
      go_ret
      exact ⟨⟨_, rfl, by show _ = _; rw [HZZ.out]; rfl⟩, hb⟩
theorem containsSwap_c (xs : List St) (v : Value) (w : World) (hx : RdS w v xs) (hl : xs.length ≤ 1048576) :
    Calls Tryz.prog 106 #[v, .func (.func 107) #[] #[]] w fun e w' => e = .returned (.bool (xs.any swF)) ∧ Below w.heap.size w w' := by
  have HI := Lib.hid (indexSwap_c xs v w hx hl)
  generalize xs.any swF = f at *
  go_enter Tryz.func106, Tryz.ntmps106
  go_wp2_with fail
  refine HI.out.mono ?_
  rintro e w1 ⟨⟨z, rfl, hz⟩, hb⟩
  go_wp2
  go_ret
  exact ⟨by rw [hz.out]; rfl, hb⟩
end Go.Proofs.YtfedloljhocpgaaGreatDoor
namespace Go.Proofs.YtfedloljhocpgaaGreatDoor
open Go.RowKit Go.PM Go.PD
attribute [local go_sem] Oper.semAt_some
theorem infoStq : (Tryz.prog.info? 58).map (fun i => (i.zero, i.size, i.bytes)) = some (some (.agg #[.int .i64 0, .string ⟨#[]⟩, .string ⟨#[]⟩]), 3, 40) := by kernel_rfl
set_option maxRecDepth 100000 in
set_option maxHeartbeats 2000000 in
theorem collT_c {Pr : World → Prop} (gf : Nat) (lf lb : Array Value) (eg : ∀ args W, (callFunc gf args).run Tryz.prog W = .ok (.enter gf args) W) (xs : List St) (hit : IterQ Pr Fence.wide 4 Tryz.prog gf (fun y => lf ++ #[y] ++ lb) (fun m : St => #[.agg #[.int .i64 m.1, .string m.2.1, .string m.2.2]]) xs)
    (w : World) (hPr : ∀ A, Below w.heap.size w A → Pr A) (hlen : xs.length ≤ 1048575) :
    Calls Tryz.prog 87 #[.slice none 0 0, .func (.func gf) lf lb] w fun e w' => ∃ v', e = .returned v' ∧ w'.ownsRow w.heap.size 58 3 v' xs.length (scells xs) ∧ Below w.heap.size w w' := by
  refine (callsIn_wide (n := 5)).1 ?_
  refine callsIn_of_wp_marks Tryz.func87 rfl trivial ?_ rfl
  simp only [Tryz.ntmps87, List.size_toArray, List.length_cons, List.length_nil, Nat.reduceAdd, Nat.reduceSub, Array.replicate_succ, Array.replicate_zero, List.push_toArray, List.append_toArray, List.nil_append, List.cons_append]
  have hA0 : At (w.alloc (.cells #[.slice none 0 0] 25)) w.heap.size 25 #[.slice none 0 0] := At.new _ _ _
  have hB0 : Below w.heap.size w (w.alloc (.cells #[.slice none 0 0] 25)) := (Below.refl _ _).alloc (Nat.le_refl _) _
  gi_wp2
  refine range_lawQ (F := Fence.wide) (gf := gf) (lf := lf) (lb := lb) rfl (by decide) rfl trivial eg (encs := fun m : St => #[.agg #[.int .i64 m.1, .string m.2.1, .string m.2.2]]) (xs := xs)
    hit (fun _ => rfl)
    (fun r pre W => (∃ o, RowAt W w.heap.size 25 w.heap.size 58 3 r pre.length (scells pre) o) ∧ Below w.heap.size w W) none ?_ ?_ ?_ ?_
    (fun m a' W => ∃ b, At W b 58 #[.int .i64 m.1, .string m.2.1, .string m.2.2] ∧ a' = { tmps := #[.slice none 0 0, .func (.func gf) lf lb, .pointer (some ⟨w.heap.size, 0, none⟩), undef, .slice none 0 0, .pointer (some ⟨b, 0, none⟩), .func (.func gf) lf lb, .agg #[.int .i64 m.1, .string m.2.1, .string m.2.2], undef, undef, undef, undef, undef], defers := [] }) ?_ ?_ ?_ ?_
  · rintro r pre A ⟨⟨o, ho⟩, hb⟩
    exact ⟨hPr A hb, ho.lives⟩
  · rintro r pre A A' b ⟨⟨o, h1, h2, h3⟩, hb⟩ hlb hne hg
    have hlb' : w.heap.size + 2 ≤ b := by simp at hlb; omega
    refine ⟨⟨o, h1.grown hg (fun e => by cases e; omega), own_grown h2 hg (.inl (by rw [h3]; exact fun e => hne e.symm)), h3⟩, hb.trans (below_grown hg hb.size (fun g e => by cases e; omega))⟩
  · rintro r s A A' row ⟨⟨o, ho⟩, hb⟩ hg hr
    exact ⟨⟨o, ho.turn hg (fun q e => (hr q e).2)⟩, hb.trans (below_grown hg hb.size (fun g e => by have := (hr g e).1; simp at this; omega))⟩
  · exact ⟨⟨_, hA0, ⟨rfl, .inl ⟨rfl, rfl⟩⟩, rfl⟩, hB0⟩
  · rintro m a' s A A' row ⟨b, k1, k2⟩ hg hr
    exact ⟨b, k1.turn hg (fun r e => (hr r e).2), k2⟩
  · intro l r pre m W K hI hp hsz hK
    obtain ⟨⟨o, k1, k2, k3⟩, k4⟩ := hI
    have hbl : Below W.heap.size W (W.alloc (.cells #[.int .i64 m.1, .string m.2.1, .string m.2.2] 58)) := (Below.refl _ _).alloc (Nat.le_refl _) _
    have r1 : (∃ o, RowAt (W.alloc (.cells #[.int .i64 m.1, .string m.2.1, .string m.2.2] 58)) w.heap.size 25 w.heap.size 58 3 r pre.length (scells pre) o) ∧ Below w.heap.size w (W.alloc (.cells #[.int .i64 m.1, .string m.2.1, .string m.2.2] 58)) :=
      ⟨⟨o, k1.alloc _, own_keep k2 hbl, k3⟩, k4.alloc k4.size _⟩
    have r2 := At.new W 58 #[.int .i64 m.1, .string m.2.1, .string m.2.2]
    clear k1 k2 k3 k4
    gi_wp2
    exact hK _ _ hbl r1 ⟨_, r2, rfl⟩
  · rintro l r pre m a' W ⟨⟨o, k1, k2, k0⟩, k3⟩ ⟨b, q1, rfl⟩ hp hsz
    have hpl : pre.length + 1 ≤ xs.length := by have := hp.length_le; simpa using this
    have hpn : (pre ++ [m]).length = pre.length + 1 := by simp
    have c0 : W.cell? ⟨b, 0, none⟩ = some (.int .i64 m.1) := q1.cell 0
    have c1 : W.cell? ⟨b, 1, none⟩ = some (.string m.2.1) := q1.cell 1
    have c2 : W.cell? ⟨b, 2, none⟩ = some (.string m.2.2) := q1.cell 2
    have c3 : W.cell? ⟨w.heap.size, 0, none⟩ = some o := k1.cell 0
    have hl1 := k1.lt
    have hnw := three_new W (.int .i64 m.1) (.string m.2.1) (.string m.2.2) 58
    gi_wp2_with (gi_at_builtin; refine held ?_)
    unfold Held
    obtain ⟨i0, hi0, hz0, hz1, hz2⟩ := info_parts infoStq
    refine wpListIn_lies rfl (.tmp 8) (.tmp 10) 25 rfl w.heap.size 58 i0 _ 3 40 Tryz.underlying25 hi0 hz0 hz1 hz2 rfl (by omega) o pre.length (scells pre) (by rfl) (own_keep k2 ((Below.refl _ _).alloc (Nat.le_refl _) _)) ⟨W.heap.size, 0, none⟩ 1 1 [Value.int .i64 m.1, Value.string m.2.1, Value.string m.2.2] (by rfl) rfl hnw
      (by intro u hu; simp at hu; rcases hu with rfl | rfl | rfl <;> rfl) (by omega) (by simp only [maxLen]; omega) (by omega) (by simp; have := k3.size; omega) ?_
    intro g cap W3 hown3 hgrow3 hlies hg3
    have j1 : At W3 w.heap.size 25 #[o] := (k1.alloc (.cells #[.int .i64 m.1, .string m.2.1, .string m.2.2] 58)).grown hgrow3 (own_box_ne k2 k1 (by decide))
    have d1 := j1.cell 0
    have d2 := j1.frozen 0
    have hge := own_block_ge k2
    have hge3 := own_block_ge hown3
    have hne3 := own_box_ne hown3 j1 (by decide)
    have hcs : scells pre ++ [Value.int .i64 m.1, Value.string m.2.1, Value.string m.2.2] = scells (pre ++ [m]) := by rw [scells_append]; simp [scells]
    rw [hcs, ← hpn] at hown3
    have m1 : At (W3.setCell ⟨w.heap.size, 0, none⟩ (.slice (some ⟨g, 0, none⟩) (pre.length + 1) cap)) w.heap.size 25 #[.slice (some ⟨g, 0, none⟩) (pre.length + 1) cap] := j1.set 0 _
    have hown4 := hown3.kept (grownBy_setCell' W3 w.heap.size _) (.inr hne3.symm) (w' := W3.setCell ⟨w.heap.size, 0, none⟩ (.slice (some ⟨g, 0, none⟩) (pre.length + 1) cap))
    have hB3 : Below w.heap.size w W3 := (k3.alloc k3.size _).trans (below_grown hgrow3 (by have := k3.size; simp; omega) (fun g e => hge g e))
    have hst : RowStep (w.heap.size + 1) r (some g) W (W3.setCell ⟨w.heap.size, 0, none⟩ (.slice (some ⟨g, 0, none⟩) (pre.length + 1) cap)) := by
      have hz3 := hgrow3.size
      simp at hz3
      refine ⟨by simp [World.size_setCell]; omega, fun k h1 h2 h3 => ?_, ?_⟩
      · rw [heap_setCell_other _ _ _ _ (by simp; omega), hgrow3.block k (by simp; omega) (by rw [k0]; exact h3)]
        exact Below.heap_alloc _ _ _ h2
      · rcases hlies with h | h
        · exact .inl (by rw [← h, k0])
        · exact .inr fun q e => by cases e; rw [h]; simp
    rw [hpn] at hown4
    have fin : ∃ r', ((∃ o, RowAt (W3.setCell ⟨w.heap.size, 0, none⟩ (.slice (some ⟨g, 0, none⟩) (pre.length + 1) cap)) w.heap.size 25 w.heap.size 58 3 r' (pre ++ [m]).length (scells (pre ++ [m])) o) ∧ Below w.heap.size w (W3.setCell ⟨w.heap.size, 0, none⟩ (.slice (some ⟨g, 0, none⟩) (pre.length + 1) cap))) ∧
        RowStep (w.alloc (.cells #[.slice none 0 0] 25)).heap.size r r' W (W3.setCell ⟨w.heap.size, 0, none⟩ (.slice (some ⟨g, 0, none⟩) (pre.length + 1) cap)) := by
      refine ⟨some g, ⟨⟨_, m1, ?_, rfl⟩, hB3.setCell (by simp) _⟩, by rw [World.size_alloc]; exact hst⟩
      rw [hpn]; exact hown4
    clear hnw c0 c1 c2 c3 k1 k2 k3 q1 hgrow3 hge hcs hown3 hown4 m1 hst hB3 hlies
    gi_wp2
    exact fin
  · intro D r W hD hI hd
    obtain ⟨⟨o, k1, k2, _⟩, k3⟩ := hI
    have c3 : W.cell? ⟨w.heap.size, 0, none⟩ = some o := k1.cell 0
    clear k1
    gi_wp2
    refine ⟨by simp, .inl ⟨D, _, rfl, run_takeDeferred hd, ?_⟩⟩
    exact ⟨_, results_tmp rfl _ _ _, _, rfl, own_turn k2 (grownBy_putObj' W D _) (fun r e => by cases e; exact ⟨_, hd, rfl⟩), k3.trans ⟨rfl, rfl, rfl, by simp [World.putObj], fun k hk => World.putObj_heap_other (by simp at hD; omega)⟩⟩
set_option maxRecDepth 100000 in
theorem collectT_c {Pr : World → Prop} (gf : Nat) (lf lb : Array Value) (eg : ∀ args W, (callFunc gf args).run Tryz.prog W = .ok (.enter gf args) W) (xs : List St) (hit : IterQ Pr Fence.wide 4 Tryz.prog gf (fun y => lf ++ #[y] ++ lb) (fun m : St => #[.agg #[.int .i64 m.1, .string m.2.1, .string m.2.2]]) xs)
    (w : World) (hPr : ∀ A, Below w.heap.size w A → Pr A) (hlen : xs.length ≤ 1048575) :
    Calls Tryz.prog 38 #[.func (.func gf) lf lb] w fun e w' => ∃ v', e = .returned v' ∧ w'.ownsRow w.heap.size 58 3 v' xs.length (scells xs) ∧ Below w.heap.size w w' := by
  have HC := Lib.hid (collT_c gf lf lb eg xs hit w hPr hlen)
  go_enter Tryz.func38, Tryz.ntmps38
  go_wp2_with (go_at_call 87; refine HC.out.mono ?_; rintro e w' ⟨v', rfl, ho, hb⟩)
  go_ret
  exact ⟨_, rfl, ho, hb⟩
end Go.Proofs.YtfedloljhocpgaaGreatDoor
namespace Go.PD
open Go.PM Go.RowKit
theorem mkD_far (s : List St) (k : Nat) (hk : k < s.length) {x : St} (e : s[k] = x) (h : far x = true) : mkD (s.take (k + 1)) = (mkD (s.take k) ++ [(0, spU, x.2.2)]) ++ [(0, x.2.1, spU)] := by
  rw [mkD_take s k hk, e, two_far h]; simp
theorem mkD_near (s : List St) (k : Nat) (hk : k < s.length) {x : St} (e : s[k] = x) (h : far x = false) : mkD (s.take (k + 1)) = mkD (s.take k) ++ [x] := by
  rw [mkD_take s k hk, e, two_near h]
theorem grown_cellQ (W : World) (b i : Nat) (v : Value) : W.grownBy (W.setCell ⟨b, i, none⟩ v) (some b) :=
  ⟨rfl, rfl, rfl, by simp [World.size_setCell], fun k _ hne => heap_setCell_other W _ k v (fun e => hne (by rw [e]))⟩
end Go.PD
namespace Go.Proofs.YtfedloljhocpgaaGreatDoor
open Go.RowKit Go.PM Go.PD
attribute [local go_sem] Oper.semAt_some

set_option maxRecDepth 100000 in
set_option maxHeartbeats 1600000 in
theorem direct_iter (xs : List St) (v : Value) (b1 n : Nat) (hn : 1 ≤ n) (hK : ∀ k (hk : k < xs.length), far xs[k] = true → xs[k].1 = 0) (hl : xs.length ≤ 60) :
    IterQ (fun A => At A b1 25 #[v] ∧ RdS A v xs) Fence.wide n Tryz.prog 153 (fun y => #[] ++ #[y] ++ #[.pointer (some ⟨b1, 0, none⟩)]) (fun m : St => #[.agg #[.int .i64 m.1, .string m.2.1, .string m.2.2]]) (mkD xs) := by
  intro l J r0 W hJ hP hQ hY h0
  obtain ⟨⟨hA1, hx0⟩, hr0⟩ := hP _ _ _ h0
  have c1 : W.cell? ⟨b1, 0, none⟩ = some v := hA1.cell 0
  obtain ⟨A, cap, rfl, hn1, hc1, _⟩ := hx0.open
  have HD := Lib.hid (fun k a b W => direct_c k a b W)
  have HKK := Lib.hid hK
  clear hK
  refine callsIn_of_wp Tryz.func153 rfl trivial ?_ rfl
  simp only [Tryz.ntmps153, List.size_toArray, List.length_cons, List.length_nil, Nat.reduceAdd, Nat.reduceSub, Array.replicate_succ, Array.replicate_zero, List.push_toArray, List.append_toArray, List.nil_append, List.cons_append]
  clear hA1 hx0
  gi_wp2
  gi_loopw [4, 7] (fun _ iv wr => ∃ (k : Nat) (r : Option Nat), k ≤ xs.length ∧ iv = .int .i64 k ∧ J r (mkD (xs.take k)) wr ∧ W.heap.size ≤ wr.heap.size) (fun _ iv _ => xs.length - (RowKit.intOf iv).toNat)
  case atStart => exact ⟨0, r0, by omega, rfl, h0, Nat.le_refl _⟩
  case round =>
    clear c1
    obtain ⟨k, r, hk, rfl, hj, hsz⟩ := hrel
    by_cases hlt : k < xs.length
    · obtain ⟨⟨_, hxr⟩, hrr⟩ := hP _ _ _ hj
      obtain ⟨A', cap', e, _, _, hcell⟩ := hxr.open
      cases e
      obtain ⟨b, off, rfl, hbl, hd1, hd2, hd3⟩ := hcell k hlt
      clear hcell hxr
      have HE : Hid (xs[k] = (xs[k].1, xs[k].2.1, xs[k].2.2)) := rfl
      have HPX := Lib.hid (mkD_pre xs (k + 1))
      have HFA := Lib.hid (mkD_far xs k hlt HE.out)
      have HNE := Lib.hid (mkD_near xs k hlt HE.out)
      have HKF := Lib.hid (HKK.out k hlt)
      have hkind : far (xs[k].1, xs[k].2.1, xs[k].2.2) = true → xs[k].1 = 0 := HKF.out
      have HDD := Lib.hid (fun W => HD.out xs[k].1 xs[k].2.1 xs[k].2.2 W)
      generalize xs[k].1 = x1 at *
      generalize xs[k].2.1 = x2 at *
      generalize xs[k].2.2 = x3 at *
      obtain ⟨W1, hW1⟩ : ∃ W1 : World, W1 = wr.alloc (.cells #[.int .i64 x1, .string x2, .string x3] 58) := ⟨_, rfl⟩
      have hN1 : At W1 wr.heap.size 58 #[.int .i64 x1, .string x2, .string x3] := by rw [hW1]; exact At.new _ _ _
      have hB1 : Below wr.heap.size wr W1 := by rw [hW1]; exact (Below.refl _ _).alloc (Nat.le_refl _) _
      have hrw : some wr.heap.size ≠ r := fun e => by have := hrr _ e.symm; omega
      cases hf : far (x1, x2, x3) with
      | true =>
        obtain rfl := hkind hf
        rw [hf] at HDD
        have HFF := Lib.hid (HFA.out hf)
        clear HFA HNE hkind HKF
        gi_wp2_with fail
        rw [← hW1]
        refine ⟨trivial, callsIn_wide.2 ((HDD.out _).mono ?_)⟩
        rintro e W2 ⟨rfl, hb2⟩
        have hN2 := hN1.keep hb2
        have hB2 := hB1.trans (hb2.mono hB1.size)
        have hJ2 : J r (mkD (xs.take k)) W2 := hJ _ _ _ _ none hj (grown_below hB2 none) (fun r e => by cases e)
        have hs2 := Nat.le_trans hsz hB2.size
        have hl2 := hN2.lt
        have m1 : W2.cell? ⟨wr.heap.size, 1, none⟩ = some (.string x2) := hN2.cell 1
        have m2 : W2.cell? ⟨wr.heap.size, 2, none⟩ = some (.string x3) := hN2.cell 2
        have hpx : mkD (xs.take k) ++ [(0, spU, x3)] <+: mkD xs := by
          refine List.IsPrefix.trans ?_ HPX.out
          rw [HFF.out]; exact ⟨[(0, x2, spU)], rfl⟩
        obtain ⟨fn, tmps, assign, body, hy, hR⟩ := hY r _ (0, spU, x3) W2 hJ2 hs2 hpx
        clear hW1 hb2 hN1 hB1 hd1 hd2 hd3 hJ2 hj hB2
        gi_wp2
        refine hR.mono ?_
        rintro e W3 ⟨rfl, r', hJ3, hst⟩
        have hN3 : At W3 wr.heap.size 58 #[.int .i64 0, .string x2, .string x3] := (hst.same _ hsz hl2 hrw).trans hN2
        have hr3 : some wr.heap.size ≠ r' := fun e => by
          rcases hst.row with h | h
          · exact hrw (e.trans h)
          · have := h _ e.symm; omega
        have z2 : W3.frozen? ⟨wr.heap.size, 2, none⟩ = false := hN3.frozen 2
        have m3 : W3.cell? ⟨wr.heap.size, 2, none⟩ = some (.string x3) := hN3.cell 2
        have hs3 := Nat.le_trans hs2 hst.size
        have hN4 : At (W3.setCell ⟨wr.heap.size, 2, none⟩ (.string spU)) wr.heap.size 58 #[.int .i64 0, .string x2, .string spU] := by
          have := hN3.set 2 (.string spU); simpa using this
        have hJ4 : J r' (mkD (xs.take k) ++ [(0, spU, x3)]) (W3.setCell ⟨wr.heap.size, 2, none⟩ (.string spU)) := hQ _ _ _ _ _ hJ3 hsz hr3 (grown_cellQ _ _ _ _)
        have hs4 : W.heap.size ≤ (W3.setCell ⟨wr.heap.size, 2, none⟩ (.string spU)).heap.size := by simp [World.size_setCell]; exact hs3
        have c0 : (W3.setCell ⟨wr.heap.size, 2, none⟩ (.string spU)).cell? ⟨wr.heap.size, 0, none⟩ = some (.int .i64 0) := hN4.cell 0
        have c1 : (W3.setCell ⟨wr.heap.size, 2, none⟩ (.string spU)).cell? ⟨wr.heap.size, 1, none⟩ = some (.string x2) := hN4.cell 1
        have c2 : (W3.setCell ⟨wr.heap.size, 2, none⟩ (.string spU)).cell? ⟨wr.heap.size, 2, none⟩ = some (.string spU) := hN4.cell 2
        have hpx2 : (mkD (xs.take k) ++ [(0, spU, x3)]) ++ [(0, x2, spU)] <+: mkD xs := by rw [← HFF.out]; exact HPX.out
        obtain ⟨fn', tmps', assign', body', hy', hR'⟩ := hY r' _ (0, x2, spU) _ hJ4 hs4 hpx2
        clear hR hy hst hJ3 hN3 hN2 hJ4 m1 m2
        gi_wp2
        refine hR'.mono ?_
        rintro e W5 ⟨rfl, r5, hJ5, hst5⟩
        have hs5 := Nat.le_trans hs4 hst5.size
        clear hR' hy' hst5 c0 c1 c2 hN4 m3 z2
        gi_wp2
        go_roundw
        case rel => exact ⟨k + 1, r5, by omega, by go_num, by rw [HFF.out]; exact hJ5, hs5⟩
        case measure => simp [RowKit.intOf]; omega
      | false =>
        rw [hf] at HDD
        have HFF := Lib.hid (HNE.out hf)
        clear HFA HNE hkind HKF
        gi_wp2_with fail
        rw [← hW1]
        refine ⟨trivial, callsIn_wide.2 ((HDD.out _).mono ?_)⟩
        rintro e W2 ⟨rfl, hb2⟩
        have hN2 := hN1.keep hb2
        have hB2 := hB1.trans (hb2.mono hB1.size)
        have hJ2 : J r (mkD (xs.take k)) W2 := hJ _ _ _ _ none hj (grown_below hB2 none) (fun r e => by cases e)
        have hs2 := Nat.le_trans hsz hB2.size
        have hl2 := hN2.lt
        have c0 : W2.cell? ⟨wr.heap.size, 0, none⟩ = some (.int .i64 x1) := hN2.cell 0
        have c1 : W2.cell? ⟨wr.heap.size, 1, none⟩ = some (.string x2) := hN2.cell 1
        have c2 : W2.cell? ⟨wr.heap.size, 2, none⟩ = some (.string x3) := hN2.cell 2
        have hpx : mkD (xs.take k) ++ [(x1, x2, x3)] <+: mkD xs := by rw [← HFF.out]; exact HPX.out
        obtain ⟨fn, tmps, assign, body, hy, hR⟩ := hY r _ (x1, x2, x3) W2 hJ2 hs2 hpx
        clear hW1 hb2 hN1 hB1 hd1 hd2 hd3 hJ2 hj hB2
        gi_wp2
        refine hR.mono ?_
        rintro e W5 ⟨rfl, r5, hJ5, hst5⟩
        have hs5 := Nat.le_trans hs2 hst5.size
        clear hR hy hst5 c0 c1 c2 hN2
        gi_wp2
        go_roundw
        case rel => exact ⟨k + 1, r5, by omega, by go_num, by rw [HFF.out]; exact hJ5, hs5⟩
        case measure => simp [RowKit.intOf]; omega
    · have hk' : k = xs.length := by omega
      have hdone : J r (mkD xs) wr := by rw [hk', List.take_length] at hj; exact hj
      clear hj
      gi_wp2
      go_end0
      exact ⟨⟨_, rfl⟩, r, hdone⟩
end Go.Proofs.YtfedloljhocpgaaGreatDoor
namespace Go.PD
open Go.PM Go.RowKit
theorem noswF {xs : List St} (h : xs.any swF = false) : ∀ x ∈ xs, swF x = false := fun x hx => by
  have := List.any_eq_false.1 h x hx
  simpa using this
theorem md_kind {xs : List St} (hv : svalid xs = true) (h : xs.any swF = false) : ∀ k (hk : k < xs.length), far xs[k] = true → xs[k].1 = 0 := fun k hk hf =>
  far_kind (svalid_at hv k hk) (noswF h _ (List.getElem_mem hk)) hf
end Go.PD
namespace Go.Proofs.YtfedloljhocpgaaGreatDoor
open Go.RowKit Go.PM Go.PD Go.Lib

theorem directSteps_c (A : Option Addr) (n cap : Nat) (w : World) :
    Calls Tryz.prog 108 #[.slice A n cap] w fun e w' => e = .returned (.func (.func 153) #[] #[.pointer (some ⟨w.heap.size, 0, none⟩)]) ∧ w' = w.alloc (.cells #[.slice A n cap] 25) := by
  go_enter Tryz.func108, Tryz.ntmps108
  go_wp2
  go_ret
  exact ⟨rfl, rfl⟩
set_option maxRecDepth 100000 in
set_option maxHeartbeats 1600000 in
theorem imMakeDirect_c (xs : List St) (v : Value) (w : World) (hx : RdS w v xs) :
    Calls Tryz.prog 49 #[v] w fun e w' => ∃ v', e = .returned (.tuple #[v', .bool (mdB xs)]) ∧ w'.ownsRow w.heap.size 58 3 v' (mdS xs).length (scells (mdS xs)) ∧ Below w.heap.size w w' := by
  obtain ⟨A0, cap0, rfl, _⟩ := hx.open
  have hsv := Lib.hid (imSequenceValid_c xs _ w hx)
  have HNO : Hid (mdB xs = false → mdS xs = []) := mdS_no
  have HYS : Hid (mdB xs = true → mdS xs = mkD xs) := mdS_yes
  have HX := Lib.hid (fun W (hb : Below w.heap.size w W) => hx.below hb)
  have hown0 : ∀ W : World, W.ownsRow w.heap.size 58 3 (.slice none 0 0) ([] : List St).length (scells []) := fun W => ⟨rfl, .inl ⟨rfl, rfl⟩⟩
  rcases Bool.eq_false_or_eq_true (svalid xs) with h1 | h1
  · have hlen := svalid_len h1
    have HSN := Lib.hid (fun W hW => stepNames_c xs h1 (.slice A0 xs.length cap0) W hW)
    have hcon : ∀ (W : World), Calls Tryz.prog 104 #[.string (snT xs), .string ⟨#[117]⟩] W fun e w' => e = .returned (.bool (hasU xs)) ∧ W = w' := fun W =>
      (Tryz.strings_Contains_one (snT xs) 117 W).mono fun _ _ ⟨e1, e2⟩ => ⟨by
        rw [e1]; congr 2; simp only [hasU, indexByte_mem, snT_list], e2.symm⟩
    have HC := Lib.hid hcon
    clear hcon
    have HSW := Lib.hid (fun W hW => containsSwap_c xs (.slice A0 xs.length cap0) W hW (by omega))
    have HU := Lib.hid (fun h => md_hasU (xs := xs) h)
    have HSF := Lib.hid (fun h => md_swF (xs := xs) h)
    have HIM := Lib.hid (fun h h' => md_im (xs := xs) h1 h h')
    have HKD := Lib.hid (fun h => md_kind (xs := xs) h1 h)
    have hmd := (mkD_len xs).2
    have H1 := Lib.hid h1
    clear h1 hx
    rcases Bool.eq_false_or_eq_true (hasU xs) with hu | hu
    · rw [hu] at HC
      have HF := Lib.hid (HU.out hu)
      clear HU HIM
      go_enter Tryz.func49, Tryz.ntmps49
      go_wp2_with fail
      refine hsv.out.mono ?_
      rintro e w1 ⟨rfl, hb1⟩
      rw [H1.out]
      have hx1 := HX.out _ hb1
      go_wp2_with (first | (go_at_call 105; refine (HSN.out _ hx1).mono ?_; rintro e w2 ⟨rfl, hb2⟩) | (go_at_call 104; refine (HC.out _).mono ?_; rintro e w' ⟨rfl, rfl⟩))
      go_ret2
      exact ⟨_, by rw [HF.out]; rfl, by rw [HNO.out HF.out]; exact hown0 _, hb1.trans (hb2.mono hb1.size)⟩
    rcases Bool.eq_false_or_eq_true (xs.any swF) with hs | hs
    · rw [hu] at HC
      rw [hs] at HSW
      have HF := Lib.hid (HSF.out hs)
      clear HU HIM
      go_enter Tryz.func49, Tryz.ntmps49
      go_wp2_with fail
      refine hsv.out.mono ?_
      rintro e w1 ⟨rfl, hb1⟩
      rw [H1.out]
      have hx1 := HX.out _ hb1
      go_wp2_with (first | (go_at_call 105; refine (HSN.out _ hx1).mono ?_; rintro e w2 ⟨rfl, hb2⟩) | (go_at_call 104; refine (HC.out _).mono ?_; rintro e w' ⟨rfl, rfl⟩) | (go_at_call 106; refine (HSW.out _ (HX.out _ (hb1.trans (hb2.mono hb1.size)))).mono ?_; rintro e w3 ⟨rfl, hb3⟩))
      go_ret2
      exact ⟨_, by rw [HF.out]; rfl, by rw [HNO.out HF.out]; exact hown0 _, (hb1.trans (hb2.mono hb1.size)).trans (hb3.mono (hb1.trans (hb2.mono hb1.size)).size)⟩
    · rw [hu] at HC
      rw [hs] at HSW
      have HF := Lib.hid (HIM.out hu hs)
      have HKD2 := Lib.hid (HKD.out hs)
      clear HU HIM HSF HKD hs hu
      go_enter Tryz.func49, Tryz.ntmps49
      go_wp2_with fail
      refine hsv.out.mono ?_
      rintro e w1 ⟨rfl, hb1⟩
      rw [H1.out]
      have hx1 := HX.out _ hb1
      go_wp2_with (first | (go_at_call 105; refine (HSN.out _ hx1).mono ?_; rintro e w2 ⟨rfl, hb2⟩) | (go_at_call 104; refine (HC.out _).mono ?_; rintro e w' ⟨rfl, rfl⟩) | (go_at_call 106; refine (HSW.out _ (HX.out _ (hb1.trans (hb2.mono hb1.size)))).mono ?_; rintro e w3 ⟨rfl, hb3⟩; refine held ?_))
      unfold Held
      have hB3 := (hb1.trans (hb2.mono hb1.size)).trans (hb3.mono (hb1.trans (hb2.mono hb1.size)).size)
      have hs3 := hB3.size
      clear hb1 hb2 hb3 hx1 HC HSW HSN
      go_wp2_with fail
      refine (directSteps_c _ _ _ _).mono ?_
      rintro e w4 ⟨rfl, hw4⟩
      have hB34 : Below w3.heap.size w3 w4 := by rw [hw4]; exact (Below.refl _ _).alloc (Nat.le_refl _) _
      have hA4 : At w4 w3.heap.size 25 #[.slice A0 xs.length cap0] := by rw [hw4]; exact At.new _ _ _
      have hB4 := hB3.trans (hB34.mono hs3)
      have hs4 := hB4.size
      have hx4 := HX.out _ hB4
      have HCO := Lib.hid (collectT_c 153 #[] #[.pointer (some ⟨w3.heap.size, 0, none⟩)] (fun _ _ => rfl) (mkD xs) (direct_iter xs _ w3.heap.size 4 (by decide) HKD2.out hlen) w4 (fun A hA => ⟨hA4.keep hA, hx4.below hA⟩) (by omega))
      clear hw4 hA4 hB34 hx4 hB3 hs3
      go_wp2_with fail
      refine HCO.out.mono ?_
      rintro e w5 ⟨v5, rfl, ho5, hb5⟩
      have hB5 := hB4.trans (hb5.mono hs4)
      have ho6 := own_more ho5 hs4
      obtain ⟨A, cap, rfl, _⟩ := Rd.of_own ho5
      clear hb5 ho5 HCO hB4
      by_cases hc : (mkD xs).length ≤ 60
      · have HFT : Hid (mdB xs = true) := by show _ = _; rw [HF.out]; exact decide_eq_true hc
        have HYY := Lib.hid (HYS.out HFT.out)
        generalize mkD xs = ys at *
        have t1 : ¬ (60 : Int) < (ys.length : Int) := by omega
        go_wp2
        go_ret2
        exact ⟨_, by rw [HFT.out]; rfl, by rw [HYY.out]; exact ho6, hB5⟩
      · have HFT : Hid (mdB xs = false) := by show _ = _; rw [HF.out]; exact decide_eq_false hc
        have HYY := Lib.hid (HNO.out HFT.out)
        generalize mkD xs = ys at *
        have t1 : (60 : Int) < (ys.length : Int) := by omega
        clear ho6
        go_wp2
        go_ret2
        exact ⟨_, by rw [HFT.out]; rfl, by rw [HYY.out]; exact hown0 _, hB5⟩
  · have HF := Lib.hid (md_inv h1)
    have H1 := Lib.hid h1
    clear h1
    go_enter Tryz.func49, Tryz.ntmps49
    go_wp2_with fail
    refine hsv.out.mono ?_
    rintro e w1 ⟨rfl, hb1⟩
    rw [H1.out]
    go_wp2
    go_ret2
    exact ⟨_, by rw [HF.out]; rfl, by rw [HNO.out HF.out]; exact hown0 _, hb1⟩
end Go.Proofs.YtfedloljhocpgaaGreatDoor
namespace Go.PM
open Go.RowKit
theorem aheadZ_at {xs : List Mv} {k : Nat} (hk : k < xs.length) (h : ∀ j (hj : j < k), freeB xs (xs[j]'(by omega)) = false) (hf : freeB xs xs[k] = true) : aheadZ xs = (k : Int) := by
  have : aheadI xs = some k := by
    unfold aheadI
    rw [List.findIdx?_eq_some_iff_getElem]
    exact ⟨hk, hf, fun j hj => by rw [h j hj]; decide⟩
  unfold aheadZ; rw [this]
theorem aheadZ_none {xs : List Mv} (h : ∀ j (hj : j < xs.length), freeB xs xs[j] = false) : aheadZ xs = -1 := by
  have : aheadI xs = none := by
    unfold aheadI
    rw [List.findIdx?_eq_none_iff]
    intro m hm
    obtain ⟨j, hj, rfl⟩ := List.getElem_of_mem hm
    exact h j hj
  unfold aheadZ; rw [this]
theorem aheadZ_lt (xs : List Mv) : aheadZ xs = -1 ∨ ∃ i : Nat, i < xs.length ∧ aheadZ xs = i ∧ aheadI xs = some i := by
  cases h : aheadI xs with
  | none => left; unfold aheadZ; rw [h]
  | some i =>
    right
    obtain ⟨hi, _⟩ := aheadI_some h
    exact ⟨i, hi, by unfold aheadZ; rw [h], rfl⟩
theorem aheadI_of_neg {xs : List Mv} (h : aheadZ xs = -1) : aheadI xs = none := by
  cases h2 : aheadI xs with
  | none => rfl
  | some i =>
    unfold aheadZ at h
    rw [h2] at h
    simp only at h
    omega
end Go.PM
namespace Go.Proofs.YtfedloljhocpgaaGreatDoor
open Go.RowKit Go.PM

set_option maxRecDepth 100000 in
set_option maxHeartbeats 1600000 in
theorem indexFunc_c (xs : List Mv) (v : Value) (w : World) (hx : RdM w v xs) (hn' : xs.length ≤ 1048576) (hP : ∀ m ∈ xs, isP m.1 = true) :
    Calls Tryz.prog 142 #[v, .func (.func 144) #[.agg (cntC (cntF xs))] #[]] w fun e w' => e = .returned (.int .i64 (aheadZ xs)) ∧ Below w.heap.size w w' := by
  obtain ⟨A, cap, rfl, hn, hc, hcell⟩ := hx.open
  have HA := Lib.hid (fun m W hp => ahead_c xs m hp W hn')
  have HP := Lib.hid hP
  have HZ := Lib.hid (aheadZ_none (xs := xs))
  have HK := Lib.hid (fun k hk h => aheadZ_at (xs := xs) (k := k) hk h)
  clear hP
  generalize cntC (cntF xs) = G at *
  go_enter Tryz.func142, Tryz.ntmps142
  go_wp2
  go_loopw [5, 8] (fun _ i wr => ∃ (k : Nat), k ≤ xs.length ∧ i = .int .i64 k ∧ Below w.heap.size w wr ∧ Hid (∀ j (hj : j < k) (hj2 : j < xs.length), freeB xs xs[j] = false)) (fun _ i _ => xs.length - (RowKit.intOf i).toNat)
  case atStart => exact ⟨0, by omega, rfl, Below.refl _ _, fun j hj => by omega⟩
  case round =>
    obtain ⟨k, hk, rfl, hb, hm⟩ := hrel
    have hbs := hb.size
    by_cases hlt : k < xs.length
    · obtain ⟨b, off, rfl, hbl, hc1, hc2⟩ := hcell k hlt
      have hd1 := (hb.cell (p := ⟨b, off + k * 2, none⟩) hbl).trans hc1
      have hd2 := (hb.cell (p := ⟨b, off + k * 2 + 1, none⟩) hbl).trans hc2
      clear hc1 hc2 hcell
      have ha := HA.out xs[k] wr (HP.out _ (List.getElem_mem hlt))
      have HKK := Lib.hid (fun h => HK.out k hlt h)
      have HNX : Hid (freeB xs xs[k] = false → ∀ j (hj : j < k + 1) (hj2 : j < xs.length), freeB xs xs[j] = false) := fun h j hj hj2 => by
        by_cases e : j = k
        · subst e; exact h
        · exact hm.out j (by omega) hj2
      generalize freeB xs xs[k] = fb at *
      generalize xs[k].1 = x1 at *
      generalize xs[k].2 = x2 at *
      have HAA := Lib.hid ha
      clear ha
      cases fb with
      | true =>
        go_wp2_with (go_at_call 144; refine HAA.out.mono ?_; rintro e w3 ⟨rfl, hb3⟩)
        go_ret
        exact ⟨by rw [HKK.out (fun j hj => hm.out j hj (by omega)) (by first | trivial | rfl)]; rfl, hb.trans (hb3.mono hbs)⟩
      | false =>
        go_wp2_with (go_at_call 144; refine HAA.out.mono ?_; rintro e w3 ⟨rfl, hb3⟩)
        go_roundw
        case rel => exact ⟨k + 1, by omega, by go_num, hb.trans (hb3.mono hbs), HNX.out (by first | trivial | rfl)⟩
        case measure => simp [RowKit.intOf]; omega
    · have hz := HZ.out fun j hj => hm.out j (by omega) hj
      have HZZ := Lib.hid hz
      clear hz
      go_wp2
      go_ret
      exact ⟨by rw [HZZ.out]; rfl, hb⟩
set_option maxRecDepth 100000 in
set_option maxHeartbeats 1600000 in
theorem firstAhead_c (xs : List Mv) (v : Value) (w : World) (hx : RdM w v xs) (hn' : xs.length ≤ 1048576) (hP : ∀ m ∈ xs, isP m.1 = true) :
    Calls Tryz.prog 89 #[v] w fun e w' => e = .returned (.int .i64 (aheadZ xs)) ∧ Below w.heap.size w w' := by
  go_enter Tryz.func89, Tryz.ntmps89
  go_wp2_with fail
  refine (countReaders_c xs v _ hx hn').mono ?_
  rintro e w1 ⟨rfl, hb1⟩
  have hs1 := hb1.size
  have hx1 := hx.below hb1
  go_wp2_with fail
  refine (indexFunc_c xs v _ hx1 hn' hP).mono ?_
  rintro e w2 ⟨rfl, hb2⟩
  have hb := hb1.trans (hb2.mono hs1)
  clear hb2
  go_wp2
  go_ret
  exact ⟨rfl, hb⟩
end Go.Proofs.YtfedloljhocpgaaGreatDoor
namespace Go.PM
open Go.RowKit
section
variable {P : Program}
theorem run_copyN (w : World) (dT sT ty elem : TypeId) (s g o dLen dCap : Nat) (a : Addr) (sLen sCap : Nat) (cur : Array Value) (t : TypeId) (cs : List Value)
    (hu : P.underlying dT = some (.slice elem)) (hs : (P.info? elem).map (·.size) = some s)
    (hg : w.heap[g]? = some (.cells cur t (0, 0))) (hn : cs.length = Nat.min sLen dLen * s)
    (hsrc : ∀ j v, cs[j]? = some v → w.cell? (a.add j) = some v) (hfit : o + cs.length ≤ cur.size) (h1 : ∀ v ∈ cs, v.oneCell' = true) :
    (Builtin.copy_ #[dT, sT] ty #[.slice (some ⟨g, o, none⟩) dLen dCap, .slice (some a) sLen sCap]).run P w =
      .ok (goInt (Nat.min sLen dLen : Nat)) (w.setRow g (cur.toList.take o ++ cs ++ cur.toList.drop (o + cs.length)).toArray) := by
  have hl := run_loadCells_list (P := P) w a cs hsrc
  have hst := run_storeCells_at P g o t cs 0 cur w hg (by simpa using hfit) h1
  cases hq : P.info? elem with
  | none => simp [hq] at hs
  | some i =>
    have hi : i.size = s := by simpa [hq] using hs
    simp only [hn] at hl
    rw [← hn] at hl
    simp [Builtin.copy_, run_underlying hu, Builtin.lenOf, Builtin.firstCells, sizeOf, typeInfo, hq, hi, ← hn, hl, hst]
theorem run_copyN0 (w : World) (dT sT ty elem : TypeId) (s : Nat) (d a : Option Addr) (dLen dCap sLen sCap : Nat) (hu : P.underlying dT = some (.slice elem)) (hs : (P.info? elem).map (·.size) = some s) (hn : Nat.min sLen dLen = 0) :
    (Builtin.copy_ #[dT, sT] ty #[.slice d dLen dCap, .slice a sLen sCap]).run P w = .ok (goInt 0) w := by
  cases hq : P.info? elem with
  | none => simp [hq] at hs
  | some i =>
    have hl : ∀ a, (loadCells a 0).run P w = .ok #[] w := fun a => run_loadCells_list (P := P) w a [] (by simp)
    cases d <;> cases a <;> simp [Builtin.copy_, run_underlying hu, Builtin.lenOf, Builtin.firstCells, sizeOf, typeInfo, hq, hn, hl, storeCells]
theorem wpList_copyN {w : World} {ops : Array Oper} {rest : List Oper} {o : Oper} {a : Act} {Q : Exit → Act → World → Prop} (hgd : o.guard = none) (d s : Operand) (dT sT : TypeId)
    (ho : o.op = .call { callee := .builtin .copy, args := #[d, s], argTypes := #[dT, sT] }) (elem : TypeId) (sz : Nat) (hu : P.underlying dT = some (.slice elem)) (hsz : (P.info? elem).map (·.size) = some sz)
    (dp sp : Option Addr) (dLen dCap sLen sCap : Nat) (hd : a.eval d = .slice dp dLen dCap) (hs : a.eval s = .slice sp sLen sCap)
    (g off : Nat) (cur : List Value) (t : TypeId) (hg : w.heap[g]? = some (.cells cur.toArray t (0, 0))) (cs : List Value) (hn : cs.length = Nat.min sLen dLen * sz)
    (hpos : 0 < Nat.min sLen dLen → dp = some ⟨g, off, none⟩ ∧ ∃ ad, sp = some ad ∧ ∀ j v, cs[j]? = some v → w.cell? (ad.add j) = some v)
    (hfit : off + cs.length ≤ cur.length) (h1 : ∀ v ∈ cs, v.oneCell' = true) (B : Nat) (w0 : World) (hb : Below B w0 w) (hBg : B ≤ g)
    (h : ∀ w', Hid (w'.heap[g]? = some (.cells (splice cur off cs).toArray t (0, 0))) → Below B w0 w' → wpList P ops Q rest (a.put o.dst (goInt (Nat.min sLen dLen : Nat))) w') :
    wpList P ops Q (o :: rest) a w := by
  refine wpList_plain hgd fun K hK => ?_
  by_cases h0 : Nat.min sLen dLen = 0
  · obtain rfl : cs = [] := List.eq_nil_of_length_eq_zero (by rw [hn, h0, Nat.zero_mul])
    have hrun := run_copyN0 (P := P) w dT sT o.type elem sz dp sp dLen dCap sLen sCap hu hsz h0
    unfold Oper.wp
    simp [execOp, ho, resolve, invoke, builtin, hd, hs, hrun, Result.andThen]
    have := h w (show _ = _ by simpa [splice] using hg) hb
    rw [h0] at this
    exact hK _ _ this
  · obtain ⟨rfl, ad, rfl, hsrc⟩ := hpos (by omega)
    have hrun := run_copyN (P := P) w dT sT o.type elem sz g off dLen dCap ad sLen sCap cur.toArray t cs hu hsz hg hn hsrc (by simpa using hfit) h1
    unfold Oper.wp
    simp [execOp, ho, resolve, invoke, builtin, hd, hs, hrun, Result.andThen]
    have := h _ (show _ = _ by simpa [splice] using setRow_heap w g _ _ t _ hg) (below_setRow hb hBg _)
    refine hK _ _ ?_
    simpa [splice] using this
end
theorem mcells_one (xs : List Mv) : ∀ v ∈ mcells xs, v.oneCell' = true := by
  intro v hv
  unfold mcells at hv
  obtain ⟨m, _, h⟩ := List.mem_flatMap.1 hv
  simp at h
  rcases h with rfl | rfl <;> rfl
theorem own_at (w : World) (g base : Nat) (e : TypeId) (xs : List Mv) (hg : At w g e (mcells xs).toArray) (hb : base ≤ g) (hn : xs.length ≤ 1048576) :
    w.ownsRow base e 2 (.slice (some ⟨g, 0, none⟩) xs.length xs.length) xs.length (mcells xs) := by
  have hl := mcells_length xs
  have hm : maxLen = 9223372036854775807 := rfl
  refine ⟨hl, .inr ⟨g, xs.length, (mcells xs).toArray, rfl, hb, hg, Nat.le_refl _, by omega, by simp [hl], by simp [← hl]⟩⟩
end Go.PM
namespace Go.PM
open Go.RowKit
theorem mcells_take (xs : List Mv) (k : Nat) : (mcells xs).take (k * 2) = mcells (xs.take k) := by
  induction xs generalizing k with
  | nil => simp [mcells]
  | cons x xs ih =>
    cases k with
    | zero => simp [mcells]
    | succ k =>
      rw [mcells_cons, List.take_succ_cons, mcells_cons, ← ih k, show (k + 1) * 2 = k * 2 + 1 + 1 by omega]
      rfl
theorem mcells_drop (xs : List Mv) (k : Nat) : (mcells xs).drop (k * 2) = mcells (xs.drop k) := by
  induction xs generalizing k with
  | nil => simp [mcells]
  | cons x xs ih =>
    cases k with
    | zero => simp [mcells]
    | succ k =>
      rw [mcells_cons, List.drop_succ_cons, ← ih k, show (k + 1) * 2 = k * 2 + 1 + 1 by omega]
      rfl
theorem Rd.cellsFrom {w : World} {b off n cap : Nat} {xs : List Mv} (h : RdM w (.slice (some ⟨b, off, none⟩) n cap) xs) : ∀ j u, (mcells xs)[j]? = some u → w.cell? ⟨b, off + j, none⟩ = some u := by
  intro j u hu
  obtain ⟨A, cap', e, hc, hn, hl, hr⟩ := h
  have h0 : 0 < xs.length := by
    have := (List.getElem?_eq_some_iff.1 hu).1
    rw [mcells_length] at this; omega
  obtain ⟨b', off', eA, hb, hcell⟩ := hr h0
  cases e; cases eA
  exact hcell j u hu
end Go.PM
namespace Go.Proofs.YtfedloljhocpgaaGreatDoor
open Go.RowKit Go.PM

set_option maxRecDepth 100000 in
set_option maxHeartbeats 1600000 in
theorem without_c (xs : List Mv) (v : Value) (i : Nat) (hi : i < xs.length) (w : World) (hx : RdM w v xs) (hn' : xs.length ≤ 1048576) :
    Calls Tryz.prog 90 #[v, .int .i64 i] w fun e w' => ∃ v', e = .returned v' ∧ w'.ownsRow w.heap.size 56 2 v' (xs.eraseIdx i).length (mcells (xs.eraseIdx i)) ∧ Below w.heap.size w w' := by
  have hx0 := hx
  obtain ⟨A, cap, rfl, hn, hc, hcell⟩ := hx.open
  obtain ⟨b, off, rfl, hbl, _, _⟩ := hcell i hi
  clear hcell
  have hsrc := Rd.cellsFrom hx0
  clear hx hx0
  obtain ⟨i0, hi0, hz0, hz1, hz2⟩ := info_parts infoMv
  have hmk := fun W : World => run_make (P := Tryz.prog) W 23 56 i0 _ Tryz.underlying23 hi0 hz0 .i64 .i64 ((xs.length - 1 : Nat) : Int) ((xs.length - 1 : Nat) : Int) (by omega) (Int.le_refl _) (by rw [hz2]; omega) (by omega)
  simp only [Int.toNat_natCast, hz1] at hmk
  have hsub : ((xs.length : Int) - 1) = ((xs.length - 1 : Nat) : Int) := by omega
  generalize xs.length - 1 = n1 at *
  obtain ⟨Z, hZ, hZl⟩ : ∃ Z : List Value, madeCells #[Value.string ⟨#[]⟩, Value.string ⟨#[]⟩] (n1 * 2) = Z.toArray ∧ Z.length = n1 * 2 := ⟨(madeCells #[Value.string ⟨#[]⟩, Value.string ⟨#[]⟩] (n1 * 2)).toList, by simp, by rw [Array.length_toList]; exact size_madeCells _ _⟩
  have hmk2 : ∀ W : World, Sem.run Tryz.prog (Instr.makeSlice 23 (.int .i64 (n1 : Nat)) (.int .i64 (n1 : Nat))) W = .ok (.slice (some ⟨W.heap.size, 0, none⟩) n1 n1) (W.alloc (.cells Z.toArray 56)) := fun W => by rw [hmk W]; exact congrArg (fun c => Result.ok (Value.slice (some ⟨W.heap.size, 0, none⟩) n1 n1) (W.alloc (.cells c 56))) hZ
  clear hmk hZ hz0 hz1 hz2 hi0 i0
  have hO : At (w.alloc (.cells Z.toArray 56)) w.heap.size 56 Z.toArray := At.new _ _ _
  have hB : Below w.heap.size w (w.alloc (.cells Z.toArray 56)) := (Below.refl _ _).alloc (Nat.le_refl _) _
  have hl1 : (mcells (xs.take i)).length = i * 2 := by rw [mcells_length, List.length_take]; omega
  have hl2 : (mcells (xs.drop (i + 1))).length = (n1 - i) * 2 := by rw [mcells_length, List.length_drop]; omega
  have hin : i ≤ n1 := by omega
  have hm1 : Nat.min i n1 = i := Nat.min_eq_left hin
  have s1 : ∀ j u, (mcells (xs.take i))[j]? = some u → (mcells xs)[j]? = some u := fun j u h => by
    rw [← mcells_take, List.getElem?_take] at h
    split at h
    · exact h
    · cases h
  have s2 : ∀ j u, (mcells (xs.drop (i + 1)))[j]? = some u → (mcells xs)[(i + 1) * 2 + j]? = some u := fun j u h => by
    rw [← mcells_drop, List.getElem?_drop] at h
    exact h
  have o1 := mcells_one (xs.take i)
  have o2 := mcells_one (xs.drop (i + 1))
  have hfin : ∀ X1 X2 : List Value, X1 = mcells (xs.take i) → X2 = mcells (xs.drop (i + 1)) → splice (splice Z 0 X1) (i * 2) X2 = mcells (xs.eraseIdx i) := fun X1 X2 e1 e2 => by
    have hl1' : X1.length = i * 2 := by rw [e1]; exact hl1
    have hl2' : X2.length = (n1 - i) * 2 := by rw [e2]; exact hl2
    have e3 : splice Z 0 X1 = X1 ++ Z.drop (i * 2) := by unfold splice; simp [hl1']
    rw [e3]
    unfold splice
    rw [List.take_left' hl1', List.drop_eq_nil_of_le (by rw [List.length_append, List.length_drop, hl1', hl2', hZl]; omega), List.append_nil, e1, e2, ← mcells_append, List.eraseIdx_eq_take_drop_succ]
  have hle : (xs.eraseIdx i).length = n1 := by rw [List.length_eraseIdx_of_lt hi]; omega
  obtain ⟨X1, hX1⟩ : ∃ X, X = mcells (xs.take i) := ⟨_, rfl⟩
  obtain ⟨X2, hX2⟩ : ∃ X, X = mcells (xs.drop (i + 1)) := ⟨_, rfl⟩
  have hf := Lib.hid (hfin X1 X2 hX1 hX2)
  rw [← hX1] at hl1 s1 o1
  rw [← hX2] at hl2 s2 o2
  have HX := Lib.hid (And.intro hX1 hX2)
  have HLE := Lib.hid hle
  have HS := Lib.hid hsrc
  clear hX1 hX2 hfin hle
  have hcp : ∀ (W : World), Below w.heap.size w W → ∀ (j : Nat) (u : Value), (mcells xs)[j]? = some u → W.cell? ⟨b, off + j, none⟩ = some u := fun W hW j u h => (hW.cell hbl).trans (hsrc j u h)
  have hp1 : 0 < Nat.min i n1 → (some ⟨w.heap.size, 0, none⟩ : Option Addr) = some ⟨w.heap.size, 0, none⟩ ∧ ∃ ad, (some ⟨b, off, none⟩ : Option Addr) = some ad ∧ ∀ j v, X1[j]? = some v → (w.alloc (.cells Z.toArray 56)).cell? (ad.add j) = some v :=
    fun _ => ⟨rfl, _, rfl, fun j u h => by rw [show (⟨b, off, none⟩ : Addr).add j = ⟨b, off + j, none⟩ by unfold Addr.add; split <;> simp_all]; exact hcp _ hB j u (s1 j u h)⟩
  go_enter Tryz.func90, Tryz.ntmps90
  go_wp2_with (refine wpList_copyN rfl (.tmp 10) (.tmp 13) 23 23 rfl 56 2 Tryz.underlying23 (by kernel_rfl) (some ⟨w.heap.size, 0, none⟩) (some ⟨b, off, none⟩) n1 n1 i cap (by rfl) (by rfl) w.heap.size 0 Z 56 hO X1 (by rw [hl1, hm1]) hp1 (by rw [hl1, hZl]; omega) o1 w.heap.size w hB (Nat.le_refl _) ?_; intro W1 hA1 hb1)
  clear hp1 hO hB
  have hin2 : (i : Int) ≤ (n1 : Int) := by omega
  have hin3 : ((i : Int) + 1) ≤ (xs.length : Int) := by omega
  refine region_tail (C := fun w' => w' = W1.drew) 7 (by kernel_rfl) (by kernel_rfl) rfl ?_
  simp only [List.take_succ_cons, List.take_zero, List.drop_succ_cons, List.drop_zero]
  go_big_quiet_step (fail)
  go_big_quiet_step (fail)
  go_big_quiet_step (fail)
  go_big_quiet_step (fail)
  go_big_quiet_step (fail)
  go_big_quiet_step (fail)
  go_big_quiet_step (fail)
  refine wpQuiet_nil ?_
  intro w' hw'
  subst hw'
  have hcopy : ∀ (W : World), Below w.heap.size w W → ∀ (j : Nat) (v : Value), X2[j]? = some v → W.cell? ((⟨b, off + (i + 1) * 2, none⟩ : Addr).add j) = some v := fun W hW j v h => by
    rw [show (⟨b, off + (i + 1) * 2, none⟩ : Addr).add j = ⟨b, off + ((i + 1) * 2 + j), none⟩ by unfold Addr.add; split <;> simp_all [Nat.add_assoc]]
    exact hcp W hW _ _ (s2 j v h)
  refine wpList_copyN rfl (.tmp 17) (.tmp 21) 23 23 rfl 56 2 Tryz.underlying23 (by kernel_rfl) _ _ (n1 - i) (n1 - i) (xs.length - (i + 1)) (cap - (i + 1)) (by rfl) (by rfl) w.heap.size (i * 2) (splice Z 0 X1) 56 hA1.out X2 ?_ ?_ ?_ o2 w.heap.size w hb1.drew (Nat.le_refl _) ?_
  · rw [hl2, show Nat.min (xs.length - (i + 1)) (n1 - i) = n1 - i from Nat.min_eq_right (by omega)]
  · intro h0
    rw [show Nat.min (xs.length - (i + 1)) (n1 - i) = n1 - i from Nat.min_eq_right (by omega)] at h0
    refine ⟨?_, ?_⟩
    · rw [if_neg (by omega)]
    · rw [if_neg (by omega)]
      exact ⟨_, rfl, hcopy _ hb1.drew⟩
  · rw [hl2]
    have : (splice Z 0 X1).length = Z.length := length_splice _ _ _ (by rw [hl1, hZl]; omega)
    rw [this, hZl]; omega
  · intro W2 hA2 hb2
    have hA3 := hA2.out
    rw [hf.out] at hA3
    have ho := own_at W2 w.heap.size w.heap.size 56 (xs.eraseIdx i) hA3 (Nat.le_refl _) (by rw [HLE.out]; omega)
    rw [HLE.out] at ho
    have HO := Lib.hid ho
    clear ho hA3 hA2 hcopy hcp
    generalize (if n1 = i then (some ⟨w.heap.size, 0, none⟩ : Option Addr) else some ⟨w.heap.size, i * 2, none⟩) = Q1
    generalize (if cap = i + 1 then (some ⟨b, off, none⟩ : Option Addr) else some ⟨b, off + (i + 1) * 2, none⟩) = Q2
    go_wp2
    go_ret
    exact ⟨_, rfl, by rw [HLE.out]; exact HO.out, hb2⟩
end Go.Proofs.YtfedloljhocpgaaGreatDoor
namespace Go.PM
open Go.RowKit
def redK (d : Mv) (xs : List Mv) (k : Nat) : List Mv := redM d (xs.take k) ++ xs.drop k
theorem redK_len (d : Mv) (xs : List Mv) (k : Nat) : (redK d xs k).length = xs.length := by
  unfold redK
  rw [List.length_append, redM_len, List.length_take, List.length_drop]; omega
theorem redK_zero (d : Mv) (xs : List Mv) : redK d xs 0 = xs := by
  unfold redK redM
  simp [instM]
theorem redK_full (d : Mv) (xs : List Mv) : redK d xs xs.length = redM d xs := by
  unfold redK; simp
def redB (d : Mv) (m : Mv) : Bool := decide (m.2 = d.2) && !isD d.2
theorem redM_append (d : Mv) (xs ys : List Mv) : redM d (xs ++ ys) = redM d xs ++ redM d ys := by
  unfold redM; split
  · rfl
  · simp [instM]
theorem redM_one (d m : Mv) : redM d [m] = [if redB d m = true then (m.1, d.1) else m] := by
  unfold redM redB instM
  by_cases h : isD d.2 = true
  · rw [if_pos h, h]; simp
  · rw [if_neg h]
    have : isD d.2 = false := by simpa using h
    rw [this]
    by_cases h2 : m.2 = d.2
    · simp [h2]
    · simp [h2]
theorem redK_at (d : Mv) (xs : List Mv) (k : Nat) (hk : k < xs.length) : (redK d xs k)[k]? = some xs[k] := by
  unfold redK
  rw [List.getElem?_append_right (by rw [redM_len, List.length_take]; omega), redM_len, List.length_take, List.getElem?_drop]
  rw [show k + (k - min k xs.length) = k by omega, List.getElem?_eq_getElem hk]
theorem redK_succ (d : Mv) (xs : List Mv) (k : Nat) (hk : k < xs.length) : redK d xs (k + 1) = (redK d xs k).set k (if redB d xs[k] = true then (xs[k].1, d.1) else xs[k]) := by
  have hl : (redM d (xs.take k)).length = k := by rw [redM_len, List.length_take]; omega
  unfold redK
  rw [take_snoc xs k hk, redM_append, redM_one, List.set_append_right _ _ (by omega), hl, Nat.sub_self, List.drop_eq_getElem_cons hk, List.set_cons_zero, List.append_assoc]
  rfl
theorem mcells_set2 (xs : List Mv) (k : Nat) (hk : k < xs.length) (s : ByteArray) : (mcells xs).set (k * 2 + 1) (.string s) = mcells (xs.set k (xs[k].1, s)) := by
  induction xs generalizing k with
  | nil => simp at hk
  | cons x xs ih =>
    cases k with
    | zero => simp [mcells]
    | succ k =>
      have := ih k (by simpa using hk)
      rw [mcells_cons, List.set_cons_succ, show (k + 1) * 2 = k * 2 + 1 + 1 by omega, List.set_cons_succ, this, List.set_cons_succ, mcells_cons]
      rfl
end Go.PM
namespace Go.Proofs.YtfedloljhocpgaaGreatDoor
open Go.RowKit Go.PM

set_option maxRecDepth 100000 in
set_option maxHeartbeats 1600000 in
theorem redirected_c (xs : List Mv) (v : Value) (d : Mv) (w : World) (hx : RdM w v xs) (hn' : xs.length ≤ 1048576) :
    Calls Tryz.prog 91 #[v, .agg #[.string d.1, .string d.2]] w fun e w' => ∃ v', e = .returned v' ∧ w'.ownsRow w.heap.size 56 2 v' (redM d xs).length (mcells (redM d xs)) ∧ Below w.heap.size w w' := by
  have hx0 := hx
  obtain ⟨A, cap, rfl, hn, hc, hcell⟩ := hx.open
  obtain ⟨i0, hi0, hz0, hz1, hz2⟩ := info_parts infoMv
  have hmk := fun W : World => run_make (P := Tryz.prog) W 23 56 i0 _ Tryz.underlying23 hi0 hz0 .i64 .i64 ((xs.length : Nat) : Int) ((xs.length : Nat) : Int) (by omega) (Int.le_refl _) (by rw [hz2]; omega) (by omega)
  simp only [Int.toNat_natCast, hz1] at hmk
  obtain ⟨Z, hZ, hZl⟩ : ∃ Z : List Value, madeCells #[Value.string ⟨#[]⟩, Value.string ⟨#[]⟩] (xs.length * 2) = Z.toArray ∧ Z.length = xs.length * 2 := ⟨(madeCells #[Value.string ⟨#[]⟩, Value.string ⟨#[]⟩] (xs.length * 2)).toList, by simp, by rw [Array.length_toList]; exact size_madeCells _ _⟩
  have hmk2 : ∀ W : World, Sem.run Tryz.prog (Instr.makeSlice 23 (.int .i64 (xs.length : Nat)) (.int .i64 (xs.length : Nat))) W = .ok (.slice (some ⟨W.heap.size, 0, none⟩) xs.length xs.length) (W.alloc (.cells Z.toArray 56)) := fun W => by rw [hmk W]; exact congrArg (fun c => Result.ok (Value.slice (some ⟨W.heap.size, 0, none⟩) xs.length xs.length) (W.alloc (.cells c 56))) hZ
  clear hmk hZ hz0 hz1 hz2 hi0 i0
  obtain ⟨W0, hW0⟩ : ∃ W0 : World, W0 = (w.alloc (.cells #[.string d.1, .string d.2] 56)).alloc (.cells Z.toArray 56) := ⟨_, rfl⟩
  have hD : At W0 w.heap.size 56 #[.string d.1, .string d.2] := by rw [hW0]; exact (At.new _ _ _).alloc _
  have hO : At W0 (w.heap.size + 1) 56 Z.toArray := by
    rw [hW0]; have := At.new (w.alloc (.cells #[.string d.1, .string d.2] 56)) 56 Z.toArray
    rwa [World.size_alloc] at this
  have hB : Below w.heap.size w W0 := by rw [hW0]; (repeat' (first | (with_reducible exact Below.refl _ _) | (with_reducible assumption) | (with_reducible refine Below.alloc ?_ ?_ _) | (with_reducible refine Below.drew ?_) | (with_reducible refine Below.setCell ?_ ?_ _) | (with_reducible exact Nat.le_refl _) | omega | ((repeat (first | rewrite [World.size_alloc] | rewrite [World.size_setCell] | rewrite [World.size_drew])); omega) | (simp; omega) | (simp; done)))
  have hB1 : Below (w.heap.size + 1) W0 W0 := Below.refl _ _
  have hl1 := mcells_length xs
  have o1 := mcells_one xs
  have hsp : splice Z 0 (mcells xs) = mcells xs := by unfold splice; simp [hl1, hZl]
  obtain ⟨X1, hX1⟩ : ∃ X, X = mcells xs := ⟨_, rfl⟩
  rw [← hX1] at hsp hl1 o1
  have HX := Lib.hid hX1
  have HSP := Lib.hid hsp
  have hp1 : 0 < Nat.min xs.length xs.length → (some ⟨w.heap.size + 1, 0, none⟩ : Option Addr) = some ⟨w.heap.size + 1, 0, none⟩ ∧ ∃ ad, A = some ad ∧ ∀ j v, X1[j]? = some v → W0.cell? (ad.add j) = some v := fun h => by
    refine ⟨rfl, ?_⟩
    obtain ⟨b, off, rfl, hbl, _, _⟩ := hcell 0 (by have e : Nat.min xs.length xs.length = xs.length := Nat.min_self _; rw [e] at h; exact h)
    refine ⟨_, rfl, fun j u hj => ?_⟩
    rw [show (⟨b, off, none⟩ : Addr).add j = ⟨b, off + j, none⟩ by unfold Addr.add; split <;> simp_all]
    exact (hB.cell hbl).trans (Rd.cellsFrom hx0 j u (by rw [← hX1]; exact hj))
  have HP1 := Lib.hid hp1
  clear hX1 hp1 hcell hx hx0 hsp
  have hm1 : Nat.min xs.length xs.length = xs.length := Nat.min_self _
  have hlt0 := hD.lt
  subst hW0
  go_enter Tryz.func91, Tryz.ntmps91
  go_wp2_with (refine wpList_copyN rfl (.tmp 10) (.tmp 11) 23 23 rfl 56 2 Tryz.underlying23 (by kernel_rfl) (some ⟨w.heap.size + 1, 0, none⟩) A xs.length xs.length xs.length cap (by rfl) (by rfl) (w.heap.size + 1) 0 Z 56 hO X1 (by rw [hl1, hm1]) HP1.out (by rw [hl1, hZl]; omega) o1 (w.heap.size + 1) _ hB1 (Nat.le_refl _) ?_; intro W1 hA1 hb1)
  have hA2 : At W1 (w.heap.size + 1) 56 (mcells (redK d xs 0)).toArray := by
    rw [redK_zero, ← HX.out, ← HSP.out]; exact hA1.out
  have hD2 : At W1 w.heap.size 56 #[.string d.1, .string d.2] := hD.below hb1 (by omega)
  have hb2 : Below w.heap.size w W1 := hB.trans (hb1.mono (by omega))
  have HRL := Lib.hid (redK_len d xs)
  have HRS := Lib.hid (redK_succ d xs)
  have HRA := Lib.hid (redK_at d xs)
  have HRF := Lib.hid (redK_full d xs)
  have HML := Lib.hid (fun k => (mcells_length (redK d xs k)).trans (by rw [redK_len]))
  clear hO hD hB hB1 HX HSP HP1 hA1 hb1
  go_loopw [6, 15] (fun _ i wr => ∃ (k : Nat), k ≤ xs.length ∧ i = .int .i64 k ∧ Below w.heap.size w wr ∧ At wr w.heap.size 56 #[.string d.1, .string d.2] ∧ At wr (w.heap.size + 1) 56 (mcells (redK d xs k)).toArray) (fun _ i _ => xs.length - (RowKit.intOf i).toNat)
  case atStart => exact ⟨0, by omega, rfl, hb2, hD2, hA2⟩
  case round =>
    obtain ⟨k, hk, rfl, hb, hD3, hA3⟩ := hrel
    have hbs := hb.size
    clear hA2 hD2 hb2
    by_cases hlt : k < xs.length
    · have hcs := mcells_at _ _ _ (HRA.out k hlt)
      have hst := HRS.out k hlt
      have hl3 := hA3.lt
      have hl4 := hD3.lt
      have e1 : ∀ j u, (mcells (redK d xs k))[j]? = some u → wr.cell? ⟨w.heap.size + 1, j, none⟩ = some u := fun j u h => (hA3.cell j).trans (by simpa using h)
      have c1 := e1 _ _ hcs.1
      have c2 := e1 _ _ hcs.2
      have z2 := hA3.frozen (k * 2 + 1)
      have d1 : wr.cell? ⟨w.heap.size, 0, none⟩ = some (.string d.1) := hD3.cell 0
      have d2 : wr.cell? ⟨w.heap.size, 1, none⟩ = some (.string d.2) := hD3.cell 1
      have hrb : redB d xs[k] = (decide (xs[k].2 = d.2) && !isD d.2) := rfl
      have hset := mcells_set2 (redK d xs k) k (by rw [HRL.out]; exact hlt) d.1
      have hat := HRA.out k hlt
      rw [List.getElem?_eq_getElem (by rw [HRL.out]; exact hlt), Option.some.injEq] at hat
      rw [hat] at hset
      have HST := Lib.hid hst
      have HSET := Lib.hid hset
      have HAT := Lib.hid hat
      clear hst hset hat e1 hcs
      generalize redB d xs[k] = rb at *
      generalize hm : xs[k] = m at *
      clear hm
      generalize m.1 = x1 at *
      generalize m.2 = x2 at *
      have i0 : (0 : Int) ≤ (k : Int) := by omega
      have i1 : (k : Int) < (xs.length : Int) := by omega
      have E2 : Hid ((mcells (redK d xs k)).toArray[k * 2 + 1]? = some (Value.string x2)) := by show _ = _; rw [← hA3.cell]; exact c2
      have x0 : ∀ x : Ext wr.heap.size wr, x.val.cell? ⟨w.heap.size, 0, none⟩ = some (.string d.1) := fun x => (x.property.cell (p := ⟨w.heap.size, 0, none⟩) hl4).trans d1
      have x1 : ∀ x : Ext wr.heap.size wr, x.val.cell? ⟨w.heap.size, 1, none⟩ = some (.string d.2) := fun x => (x.property.cell (p := ⟨w.heap.size, 1, none⟩) hl4).trans d2
      have x2c : ∀ x : Ext wr.heap.size wr, x.val.cell? ⟨w.heap.size + 1, k * 2 + 1, none⟩ = some (.string x2) := fun x => (x.property.cell (p := ⟨w.heap.size + 1, k * 2 + 1, none⟩) hl3).trans c2
      rcases Bool.eq_false_or_eq_true (x2.toList == d.2.toList) with hd | hd
      · have HD : Hid (decide (x2 = d.2) = true) := by show _ = _; rw [← beq_str]; exact hd
        rcases Bool.eq_false_or_eq_true (isD d.2) with hg | hg
        · have hG : Hid (rb = false) := by show _ = _; rw [hrb, hg]; simp
          clear hrb
          go_wp2
          refine wp_region_ext wr.heap.size (by kernel_rfl) (by kernel_rfl) ?_
          repeat (first | go_big_quiet_step (first | (go_at_call 145; exact ext_same _ (isDigit_c _ _))) | (refine wpQuiet_skip rfl ?_; simp only [Act.put, List.setIfInBounds_toArray, List.set_cons_succ, List.set_cons_zero]))
          refine wpQuiet_nil ?_
          intro w2 hw'
          obtain ⟨xw, hxw⟩ := hw'
          have hb2 := xw.property
          rw [← hxw] at hb2
          clear hxw xw x0 x1 x2c
          have hb3 : Below w.heap.size w w2 := hb.trans (hb2.mono hbs)
          have hA4 := hA3.keep hb2
          have hD4 := hD3.keep hb2
          clear hb2
          go_wp2
          go_roundw
          case rel => exact ⟨k + 1, by omega, by go_num, hb3, hD4, by rw [HST.out, hG.out, if_neg (by decide), ← HAT.out, List.set_getElem_self]; exact hA4⟩
          case measure => simp [RowKit.intOf]; omega
        · have hG : Hid (rb = true) := by show _ = _; rw [hrb, hg, HD.out]; rfl
          clear hrb
          go_wp2
          refine wp_region_ext wr.heap.size (by kernel_rfl) (by kernel_rfl) ?_
          repeat (first | go_big_quiet_step (first | (go_at_call 145; exact ext_same _ (isDigit_c _ _))) | (refine wpQuiet_skip rfl ?_; simp only [Act.put, List.setIfInBounds_toArray, List.set_cons_succ, List.set_cons_zero]))
          refine wpQuiet_nil ?_
          intro w2 hw'
          obtain ⟨xw, hxw⟩ := hw'
          have hb2 := xw.property
          rw [← hxw] at hb2
          clear hxw xw x0 x1 x2c
          have hb3 : Below w.heap.size w w2 := hb.trans (hb2.mono hbs)
          have hA4 := hA3.keep hb2
          have hD4 := hD3.keep hb2
          clear hb2
          have q1 : w2.cell? ⟨w.heap.size, 0, none⟩ = some (.string d.1) := hD4.cell 0
          have q2 : w2.cell? ⟨w.heap.size + 1, k * 2 + 1, none⟩ = some (.string x2) := (hA4.cell _).trans E2.out
          have q3 : w2.frozen? ⟨w.heap.size + 1, k * 2 + 1, none⟩ = false := hA4.frozen _
          have hs3 := hb3.size
          go_wp2
          go_roundw
          case rel =>
            refine ⟨k + 1, by omega, by go_num, hb3.setCell (by simp) _, At.far hD4 (by simp) _, ?_⟩
            rw [HST.out, hG.out, if_pos rfl, ← HSET.out, ← List.setIfInBounds_toArray]
            exact At.set hA4 _ _
          case measure => simp [RowKit.intOf]; omega
      · have hG : Hid (rb = false) := by show _ = _; rw [hrb, ← beq_str, hd]; rfl
        clear hrb
        go_wp2
        refine wp_region_ext wr.heap.size (by kernel_rfl) (by kernel_rfl) ?_
        repeat (first | go_big_quiet_step (first | (go_at_call 145; exact ext_same _ (isDigit_c _ _))) | (refine wpQuiet_skip rfl ?_; simp only [Act.put, List.setIfInBounds_toArray, List.set_cons_succ, List.set_cons_zero]))
        refine wpQuiet_nil ?_
        intro w2 hw'
        obtain ⟨xw, hxw⟩ := hw'
        have hb2 := xw.property
        rw [← hxw] at hb2
        clear hxw xw x0 x1 x2c
        have hb3 : Below w.heap.size w w2 := hb.trans (hb2.mono hbs)
        have hA4 := hA3.keep hb2
        have hD4 := hD3.keep hb2
        clear hb2
        go_wp2
        go_roundw
        case rel => exact ⟨k + 1, by omega, by go_num, hb3, hD4, by rw [HST.out, hG.out, if_neg (by decide), ← HAT.out, List.set_getElem_self]; exact hA4⟩
        case measure => simp [RowKit.intOf]; omega
    · have hk' : k = xs.length := by omega
      subst hk'
      rw [HRF.out] at hA3
      have hrl : (redM d xs).length = xs.length := redM_len d xs
      have ho := own_at wr (w.heap.size + 1) w.heap.size 56 (redM d xs) hA3 (by omega) (by omega)
      rw [hrl] at ho
      have HO := Lib.hid ho
      have HL := Lib.hid hrl
      clear ho hrl hA3
      go_wp2
      go_ret
      exact ⟨_, rfl, by rw [HL.out]; exact HO.out, hb⟩
end Go.Proofs.YtfedloljhocpgaaGreatDoor
namespace Go.PM
open Go.RowKit
def lenV : Value → Nat
  | .slice _ n _ => n
  | _ => 0
def HeldW (B : Nat) (e : TypeId) (v : Value) (xs : List Mv) (r : Option Nat) (A : World) (wv : Value) (ws : List Mv) : Prop :=
  (wv = v ∧ ws = xs) ∨ (A.ownsRow B e 2 wv ws.length (mcells ws) ∧ ∀ g, wv.ownBlock = some g → r ≠ some g)
theorem grown_cell (W : World) (a : Addr) (v : Value) : W.grownBy (W.setCell a v) (some a.block) :=
  ⟨rfl, rfl, rfl, by simp [World.size_setCell], fun k _ hne => heap_setCell_other W a k v (fun e => hne (by rw [e]))⟩
theorem own_blk {w : World} {base : Nat} {e : TypeId} {size n g : Nat} {v : Value} {cs : List Value} (h : w.ownsRow base e size v n cs) (hg : v.ownBlock = some g) : g < w.heap.size ∧ base ≤ g := by
  refine ⟨?_, own_block_ge h g hg⟩
  rcases h.2 with ⟨rfl, _⟩ | ⟨g', cap, cur, rfl, _, hh, _⟩
  · cases hg
  · cases hg
    exact (Array.getElem?_eq_some_iff.1 hh).1
theorem HeldW.rd {B : Nat} {e : TypeId} {v : Value} {xs : List Mv} {r : Option Nat} {A : World} {wv : Value} {ws : List Mv} (h : HeldW B e v xs r A wv ws) (hx : RdM A v xs) : RdM A wv ws := by
  rcases h with ⟨rfl, rfl⟩ | ⟨h, _⟩
  · exact hx
  · exact Rd.of_own h
theorem HeldW.below {B : Nat} {e : TypeId} {v : Value} {xs : List Mv} {r : Option Nat} {A A' : World} {wv : Value} {ws : List Mv} (h : HeldW B e v xs r A wv ws) (hb : Below A.heap.size A A') : HeldW B e v xs r A' wv ws := by
  rcases h with h | ⟨h, h2⟩
  · exact .inl h
  · exact .inr ⟨own_keep h hb, h2⟩
theorem HeldW.step {B : Nat} {e : TypeId} {v : Value} {xs : List Mv} {r r' : Option Nat} {A A' : World} {wv : Value} {ws : List Mv} (h : HeldW B e v xs r A wv ws) (hs : RowStep B r r' A A') : HeldW B e v xs r' A' wv ws := by
  rcases h with h | ⟨h, h2⟩
  · exact .inl h
  · refine .inr ⟨⟨h.1, ?_⟩, fun g hg e => ?_⟩
    · rcases h.2 with h' | ⟨g, cap, cur, rfl, hbg, hh, hr⟩
      · exact .inl h'
      · have hlt := (Array.getElem?_eq_some_iff.1 hh).1
        exact .inr ⟨g, cap, cur, rfl, hbg, (hs.same g hbg hlt (fun e => h2 g rfl e.symm)).trans hh, hr⟩
    · have hb := own_blk h hg
      rcases hs.row with h3 | h3
      · exact h2 g hg (by rw [← h3]; exact e)
      · have := h3 g e; omega
theorem HeldW.new {B : Nat} {e : TypeId} {v : Value} {xs : List Mv} {r : Option Nat} {A A' : World} {wv : Value} {ws : List Mv} (h : A'.ownsRow A.heap.size e 2 wv ws.length (mcells ws)) (hB : B ≤ A.heap.size) (hr : ∀ g, r = some g → g < A.heap.size) : HeldW B e v xs r A' wv ws := by
  refine .inr ⟨own_more h hB, fun g hg e => ?_⟩
  have h1 := (own_blk h hg).2
  have := hr g e
  omega
end Go.PM
namespace Go.Proofs.YtfedloljhocpgaaGreatDoor
open Go.RowKit Go.PM

set_option maxRecDepth 100000 in
set_option maxHeartbeats 1600000 in
theorem taken_iter (xs : List Mv) (v : Value) (b1 n : Nat) (hn : 1 ≤ n) (hW : Wt xs) (hl : xs.length ≤ 9) :
    IterR (fun A => At A b1 23 #[v] ∧ RdM A v xs) Fence.wide n Tryz.prog 99 (fun y => #[] ++ #[y] ++ #[.pointer (some ⟨b1, 0, none⟩)]) (fun m : Mv => #[.agg #[.string m.1, .string m.2]]) (takF 9 xs) := by
  intro l J r0 W hJ hP hY h0
  obtain ⟨⟨hA1, hx0⟩, hr0⟩ := hP _ _ _ h0
  have c1 : W.cell? ⟨b1, 0, none⟩ = some v := hA1.cell 0
  have HF := Lib.hid (fun ws wv A hx hl hp => firstAhead_c ws wv A hx (by omega : ws.length ≤ 1048576) hp)
  have HWO := Lib.hid (fun ws wv i hi A hx hl => without_c ws wv i hi A hx (by omega : ws.length ≤ 1048576))
  refine callsIn_of_wp Tryz.func99 rfl trivial ?_ rfl
  simp only [Tryz.ntmps99, List.size_toArray, List.length_cons, List.length_nil, Nat.reduceAdd, Nat.reduceSub, Array.replicate_succ, Array.replicate_zero, List.push_toArray, List.append_toArray, List.nil_append, List.cons_append]
  gi_wp2_with fail
  refine ⟨trivial, callsIn_wide.2 ((HF.out xs v _ hx0 (by omega) hW.to_).mono ?_)⟩
  rintro e w1 ⟨rfl, hb1⟩
  have hJ1 : J r0 [] w1 := hJ _ _ _ _ none h0 (grown_below hb1 none) (fun r e => by cases e)
  have hs1 := hb1.size
  clear c1 hA1 hx0
  gi_wp2
  gi_loopw [3, 4] (fun wv iv wr => ∃ (pre ws : List Mv) (r : Option Nat) (k : Nat), iv = .int .i64 (aheadZ ws) ∧ Hid (pre ++ takF k ws = takF 9 xs ∧ Wt ws) ∧ ws.length ≤ k ∧ ws.length ≤ 9 ∧ lenV wv = ws.length ∧ J r pre wr ∧ HeldW W.heap.size 56 v xs r wr wv ws ∧ W.heap.size ≤ wr.heap.size) (fun wv _ _ => lenV wv)
  case atStart =>
    obtain ⟨A, cap, e, _⟩ := (hP _ _ _ hJ1).1.2
    exact ⟨[], xs, r0, 9, rfl, ⟨rfl, hW⟩, hl, hl, by rw [e]; rfl, hJ1, .inl ⟨rfl, rfl⟩, hs1⟩
  case round =>
    obtain ⟨pre, ws, r, k, rfl, hpr, hk, h9, hlv, hj, hh, hsz⟩ := hrel
    obtain ⟨⟨_, hxr⟩, hrr⟩ := hP _ _ _ hj
    have hrd := hh.rd hxr
    rcases aheadZ_lt ws with hz | ⟨i, hi, hz, ha⟩
    · have hdone : J r (takF 9 xs) wr := by
        have := hpr.out.1
        rw [takF_none (aheadI_of_neg hz), List.append_nil] at this
        rw [← this]; exact hj
      rw [hz]
      gi_wp2
      go_end0
      exact ⟨⟨_, rfl⟩, r, hdone⟩
    · obtain ⟨k, rfl⟩ : ∃ k', k = k' + 1 := ⟨k - 1, by omega⟩
      have htk := takF_some (n := k) hi ha
      have hpx : pre ++ [ws[i]] <+: takF 9 xs := by
        rw [← hpr.out.1, htk]
        exact ⟨takF k (ws.eraseIdx i), by simp⟩
      have hyl := hY r pre ws[i] wr hj hsz hpx
      have hnx : Hid ((pre ++ [ws[i]]) ++ takF k (ws.eraseIdx i) = takF 9 xs ∧ Wt (ws.eraseIdx i)) := ⟨by rw [← hpr.out.1, htk]; simp, hpr.out.2.erase i⟩
      have hlen2 : (ws.eraseIdx i).length + 1 = ws.length := by rw [List.length_eraseIdx_of_lt hi]; omega
      obtain ⟨A, cap, rfl, hn1, hc1, hcell⟩ := hrd.open
      obtain ⟨b, off, rfl, hbl, d1, d2⟩ := hcell i hi
      have i0 : (0 : Int) ≤ (i : Int) := by omega
      have i1 : (i : Int) < (ws.length : Int) := by omega
      obtain ⟨fn, tmps, assign, body, hy, hR⟩ := hyl
      have HZ := Lib.hid hz
      rw [hz]
      clear hz ha htk hpx hcell hpr
      generalize hxm : ws[i] = m at *
      clear hxm
      gi_wp2
      refine hR.mono ?_
      rintro e W3 ⟨rfl, r', hJ3, hst⟩
      have hh3 := hh.step hst
      have hs3 := Nat.le_trans hsz hst.size
      obtain ⟨⟨_, hx3⟩, hr3⟩ := hP _ _ _ hJ3
      have hrd3 := hh3.rd hx3
      clear hrd hxr hrr hh hj d1 d2 hbl hst hR hy
      gi_wp2_with fail
      refine ⟨trivial, callsIn_wide.2 ((HWO.out ws _ i hi W3 hrd3 (by omega)).mono ?_)⟩
      rintro e W4 ⟨v4, rfl, ho4, hb4⟩
      have hh4 : HeldW W.heap.size 56 v xs r' W4 v4 (ws.eraseIdx i) := HeldW.new ho4 hs3 hr3
      have hJ4 : J r' (pre ++ [m]) W4 := hJ _ _ _ _ none hJ3 (grown_below hb4 none) (fun r e => by cases e)
      have hs4 := Nat.le_trans hs3 hb4.size
      have hrd4 : RdM W4 v4 (ws.eraseIdx i) := Rd.of_own ho4
      have hl4 : lenV v4 = (ws.eraseIdx i).length := by obtain ⟨A4, cap4, e4, _⟩ := hrd4; rw [e4]; rfl
      clear ho4 hh3 hJ3 hx3 hr3 hrd3 hb4
      generalize ws.eraseIdx i = ws2 at *
      gi_wp2_with fail
      refine ⟨trivial, callsIn_wide.2 ((HF.out ws2 v4 _ hrd4 (by omega) hnx.out.2.to_).mono ?_)⟩
      rintro e W5 ⟨rfl, hb5⟩
      have hh5 := hh4.below hb5
      have hJ5 : J r' (pre ++ [m]) W5 := hJ _ _ _ _ none hJ4 (grown_below hb5 none) (fun r e => by cases e)
      have hs5 := Nat.le_trans hs4 hb5.size
      clear hh4 hJ4 hrd4 hb5
      gi_wp2
      go_roundw
      case rel => exact ⟨pre ++ [m], ws2, r', k, rfl, hnx, by omega, by omega, hl4, hJ5, hh5, hs5⟩
      case measure => rw [hl4]; show _ < ws.length; omega
end Go.Proofs.YtfedloljhocpgaaGreatDoor
namespace Go.PM
open Go.RowKit
theorem leastK_ex {P : Nat → Prop} : ∀ n, P n → ∃ m, P m ∧ ∀ k, P k → m ≤ k := by
  intro n
  induction n using Nat.strongRecOn with
  | ind n ih =>
    intro h
    by_cases h2 : ∃ m, m < n ∧ P m
    · obtain ⟨m, h3, h4⟩ := h2; exact ih m h3 h4
    · exact ⟨n, h, fun k hk => Nat.le_of_not_lt fun hlt => h2 ⟨k, hlt, hk⟩⟩
open Classical in
noncomputable def leastK (P : Nat → Prop) : Nat := if h : ∃ m, P m ∧ ∀ k, P k → m ≤ k then Classical.choose h else 0
theorem leastK_spec {P : Nat → Prop} (h : ∃ n, P n) : P (leastK P) ∧ ∀ k, P k → leastK P ≤ k := by
  obtain ⟨n, hn⟩ := h
  have hx := leastK_ex n hn
  unfold leastK
  rw [dif_pos hx]
  exact Classical.choose_spec hx
def OrdR (B : Nat) (e : TypeId) (v : Value) (xs : List Mv) (J : Option Nat → List Mv → World → Prop) (k : Nat) (wv : Value) (A : World) : Prop :=
  ∃ (pre ws : List Mv) (r : Option Nat), pre ++ ordF k ws = ordF 19 xs ∧ Wt ws ∧ muW ws ≤ k ∧ ws.length ≤ 9 ∧ J r pre A ∧ HeldW B e v xs r A wv ws ∧ B ≤ A.heap.size
end Go.PM
namespace Go.Proofs.YtfedloljhocpgaaGreatDoor
open Go.RowKit Go.PM

set_option maxRecDepth 100000 in
set_option maxHeartbeats 3200000 in
theorem order_iter (xs : List Mv) (v : Value) (b1 n : Nat) (hn : 1 ≤ n) (hW : Wt xs) (hl : xs.length ≤ 9) :
    IterR (fun A => At A b1 23 #[v] ∧ RdM A v xs) Fence.wide n Tryz.prog 88 (fun y => #[] ++ #[y] ++ #[.pointer (some ⟨b1, 0, none⟩)]) (fun m : Mv => #[.agg #[.int .i64 0, .string m.1, .string m.2]]) (ordF 19 xs) := by
  intro l J r0 W hJ hP hY h0
  obtain ⟨⟨hA1, hx0⟩, hr0⟩ := hP _ _ _ h0
  have c1 : W.cell? ⟨b1, 0, none⟩ = some v := hA1.cell 0
  have HF := Lib.hid (fun ws wv A hx hl hp => firstAhead_c ws wv A hx (by omega : ws.length ≤ 1048576) hp)
  have HWO := Lib.hid (fun ws wv i hi A hx hl => without_c ws wv i hi A hx (by omega : ws.length ≤ 1048576))
  have HRE := Lib.hid (fun ws wv d A hx hl => redirected_c ws wv d A hx (by omega : ws.length ≤ 1048576))
  refine callsIn_of_wp Tryz.func88 rfl trivial ?_ rfl
  simp only [Tryz.ntmps88, List.size_toArray, List.length_cons, List.length_nil, Nat.reduceAdd, Nat.reduceSub, Array.replicate_succ, Array.replicate_zero, List.push_toArray, List.append_toArray, List.nil_append, List.cons_append]
  gi_wp2
  gi_loopw [3, 4, 5, 6] (fun wv _ _ _ wr => ∃ k, OrdR W.heap.size 56 v xs J k wv wr) (fun wv _ _ _ wr => leastK (fun k => OrdR W.heap.size 56 v xs J k wv wr))
  case atStart =>
    have : muW xs ≤ 19 := by unfold muW; split <;> omega
    exact ⟨19, [], xs, r0, rfl, hW, this, hl, h0, .inl ⟨rfl, rfl⟩, Nat.le_refl _⟩
  case round =>
    obtain ⟨hru, _⟩ := leastK_spec hrel
    generalize hkk : leastK (fun k => OrdR W.heap.size 56 v xs J k u3 wr) = kk at *
    have HKK := Lib.hid hkk
    clear hrel hkk
    obtain ⟨pre, ws, r, hpr, hwt, hmu, h9, hj, hh, hsz⟩ := hru
    obtain ⟨⟨_, hxr⟩, hrr⟩ := hP _ _ _ hj
    have hrd := hh.rd hxr
    obtain ⟨A, cap, rfl, hn1, hc1, hcell⟩ := hrd.open
    by_cases h0 : 0 < ws.length
    · obtain ⟨k, rfl⟩ : ∃ k', kk = k' + 1 := ⟨kk - 1, by unfold muW at hmu; omega⟩
      obtain ⟨b, off, rfl, hbl, d1', d2'⟩ := hcell 0 h0
      have hcs : ∀ q (hq : q < ws.length), wr.cell? ⟨b, off + q * 2, none⟩ = some (.string ws[q].1) ∧ wr.cell? ⟨b, off + q * 2 + 1, none⟩ = some (.string ws[q].2) := fun q hq => by
        obtain ⟨b', off', e, _, q1, q2⟩ := hcell q hq
        cases e; exact ⟨q1, q2⟩
      have d1 : wr.cell? ⟨b, off, none⟩ = some (.string ws[0].1) := by simpa using d1'
      have i00 : (0 : Int) < (ws.length : Int) := by omega
      clear d1' d2' hcell
      have hbw : Below wr.heap.size wr (wr.alloc (.cells #[.string spT, .string ws[0].1] 56)) := (Below.refl _ _).alloc (Nat.le_refl _) _
      have hfa := HF.out ws _ _ (hrd.below hbw) (by omega) hwt.to_
      have hNw : At (wr.alloc (.cells #[.string spT, .string ws[0].1] 56)) wr.heap.size 56 #[.string spT, .string ws[0].1] := At.new _ _ _
      have HSP : Hid (spT = ⟨#[116]⟩) := rfl
      rcases aheadZ_lt ws with hz | ⟨i, hi, hz, ha⟩
      · have ha := aheadI_of_neg hz
        have hof := ordF_none (n := k) h0 ha
        have hpx : pre ++ [(spT, ws[0].1)] <+: ordF 19 xs := by
          rw [← hpr, hof]; exact ⟨ordF k (redM (spT, ws[0].1) ws), by simp⟩
        have hnx : Hid ((pre ++ [(spT, ws[0].1)]) ++ ordF k (redM (spT, ws[0].1) ws) = ordF 19 xs ∧ Wt (redM (spT, ws[0].1) ws) ∧ muW (redM (spT, ws[0].1) ws) ≤ k ∧ (redM (spT, ws[0].1) ws).length ≤ 9) :=
          ⟨by rw [← hpr, hof]; simp, (hwt.none_ h0 ha).1, by have := muW_none hwt h0 ha; omega, by rw [redM_len]; exact h9⟩
        rw [hz] at hfa
        clear hz hof hpr ha hcs
        generalize ws[0].1 = x1 at *
        generalize spT = sp at *
        have hsp := HSP.out
        subst hsp
        gi_wp2_with fail
        refine ⟨trivial, callsIn_wide.2 (hfa.mono ?_)⟩
        rintro e W2 ⟨rfl, hb2⟩
        have hbw2 := hbw.trans (hb2.mono (by simp))
        have hJ2 : J r pre W2 := hJ _ _ _ _ none hj (grown_below hbw2 none) (fun r e => by cases e)
        have hh2 := hh.below hbw2
        have hN2 := hNw.keep hb2
        have hs2 := Nat.le_trans hsz hbw2.size
        clear hb2 hbw hNw hj hh hrd hxr d1 hbl hfa
        -- the step is handed out; what is left is redirected
        have hyl := hY r pre ((⟨#[116]⟩ : ByteArray), x1) W2 hJ2 hs2 hpx
        obtain ⟨fn, tmps, assign, body, hy, hR⟩ := hyl
        have n1 : W2.cell? ⟨wr.heap.size, 0, none⟩ = some (.string (⟨#[116]⟩ : ByteArray)) := hN2.cell 0
        have n2 : W2.cell? ⟨wr.heap.size, 1, none⟩ = some (.string x1) := hN2.cell 1
        gi_wp2
        refine hR.mono ?_
        rintro e W3 ⟨rfl, r', hJ3, hst⟩
        have hh3 := hh2.step hst
        have hs3 := Nat.le_trans hs2 hst.size
        obtain ⟨⟨_, hx3⟩, hr3⟩ := hP _ _ _ hJ3
        have hrd3 := hh3.rd hx3
        have hN3 : At W3 wr.heap.size 56 #[.string (⟨#[116]⟩ : ByteArray), .string x1] := (hst.same _ hsz hN2.lt (fun e => by have := hrr _ e.symm; omega)).trans hN2
        have m1 : W3.cell? ⟨wr.heap.size, 0, none⟩ = some (.string (⟨#[116]⟩ : ByteArray)) := hN3.cell 0
        have m2 : W3.cell? ⟨wr.heap.size, 1, none⟩ = some (.string x1) := hN3.cell 1
        clear n1 n2 hN2 hh2 hJ2 hst hR hy
        gi_wp2_with fail
        refine ⟨trivial, callsIn_wide.2 ((HRE.out _ _ ((⟨#[116]⟩ : ByteArray), x1) W3 hrd3 (by omega)).mono ?_)⟩
        rintro e W4 ⟨v4, rfl, ho4, hb4⟩
        have hh4 : HeldW W.heap.size 56 v xs r' W4 v4 _ := HeldW.new ho4 hs3 hr3
        have hJ4 : J r' (pre ++ [((⟨#[116]⟩ : ByteArray), x1)]) W4 := hJ _ _ _ _ none hJ3 (grown_below hb4 none) (fun r e => by cases e)
        have hs4 := Nat.le_trans hs3 hb4.size
        have hOR : OrdR W.heap.size 56 v xs J k v4 W4 := ⟨_, _, r', hnx.out.1, hnx.out.2.1, hnx.out.2.2.1, hnx.out.2.2.2, hJ4, hh4, hs4⟩
        clear hN3 m1 m2 hrd3 hx3 hr3 hh3 hJ3 hh4 hJ4 ho4 hb4
        gi_wp2
        go_roundw
        case rel => exact ⟨k, hOR⟩
        case measure =>
          rw [HKK.out]
          have := (leastK_spec (P := fun k => OrdR W.heap.size 56 v xs J k v4 W4) ⟨k, hOR⟩).2 _ hOR
          omega
      · have hof := ordF_some (n := k) hi ha
        have hpx : pre ++ [ws[i]] <+: ordF 19 xs := by
          rw [← hpr, hof]; exact ⟨ordF k (redM ws[i] (ws.eraseIdx i)), by simp⟩
        have hnx : Hid ((pre ++ [ws[i]]) ++ ordF k (redM ws[i] (ws.eraseIdx i)) = ordF 19 xs ∧ Wt (redM ws[i] (ws.eraseIdx i)) ∧ muW (redM ws[i] (ws.eraseIdx i)) ≤ k ∧ (redM ws[i] (ws.eraseIdx i)).length ≤ 9) :=
          ⟨by rw [← hpr, hof]; simp, hwt.some_ hi (aheadI_some ha).2, by have := muW_some hi ws[i]; omega, by rw [redM_len, List.length_eraseIdx_of_lt hi]; omega⟩
        have hlen2 : (ws.eraseIdx i).length ≤ 9 := by rw [List.length_eraseIdx_of_lt hi]; omega
        rw [hz] at hfa
        have hci := hcs i hi
        have i0 : (0 : Int) ≤ (i : Int) := by omega
        have i1 : (i : Int) < (ws.length : Int) := by omega
        have HWW := Lib.hid (fun A hx hl => HWO.out ws (.slice (some ⟨b, off, none⟩) ws.length cap) i hi A hx hl)
        clear hz hof hpr ha hcs
        generalize ws.eraseIdx i = ws2 at *
        rw [show ws[i] = (ws[i].1, ws[i].2) from rfl] at hpx hnx
        generalize ws[0].1 = x0 at *
        generalize ws[i].1 = y1 at *
        generalize ws[i].2 = y2 at *
        generalize spT = sp at *
        have hsp := HSP.out
        subst hsp
        gi_wp2_with fail
        refine ⟨trivial, callsIn_wide.2 (hfa.mono ?_)⟩
        rintro e W2 ⟨rfl, hb2⟩
        have hbw2 := hbw.trans (hb2.mono (by simp))
        have hN2 := hNw.keep hb2
        have hs2 := Nat.le_trans hsz hbw2.size
        have e1 := (hbw2.cell (p := ⟨b, off + i * 2, none⟩) hbl).trans hci.1
        have e2 := (hbw2.cell (p := ⟨b, off + i * 2 + 1, none⟩) hbl).trans hci.2
        have hrd2 := hrd.below hbw2
        clear hb2 hbw hNw d1 hfa hci
        gi_wp2
        have i0' : (0 : Int) ≤ (i : Int) := i0
        have hc4 := HWW.out W2.drew hrd2 (by omega)
        have HC4 := Lib.hid hc4
        clear hc4
        have e1d : W2.drew.cell? ⟨b, off + i * 2, none⟩ = some (.string y1) := e1
        have e2d : W2.drew.cell? ⟨b, off + i * 2 + 1, none⟩ = some (.string y2) := e2
        have hblw : b < W2.heap.size := Nat.lt_of_lt_of_le hbl hbw2.size
        gi_region_with (refine ⟨trivial, (callsIn_wide.2 HC4.out).mono ?_⟩; rintro e W5 ⟨v5, rfl, ho5, hb5⟩; have e1e := (hb5.cell (p := ⟨b, off + i * 2, none⟩) hblw).trans e1d; have e2e := (hb5.cell (p := ⟨b, off + i * 2 + 1, none⟩) hblw).trans e2d; have hN5 : At _ wr.heap.size 56 #[.string ⟨#[116]⟩, .string x0] := At.keep (w := W2.drew) hN2 hb5; have n1e := hN5.cell 0; have n2e := hN5.cell 1; have z1e := hN5.frozen 0; have z2e := hN5.frozen 1; simp only [List.getElem?_toArray, List.getElem?_cons_zero, List.getElem?_cons_succ] at n1e n2e)
        all_goals
          have hge5 := own_block_ge ho5
          have hs5 := hb5.size
          have hdz : W2.drew.heap.size = W2.heap.size := rfl
          have hlw : wr.heap.size < W2.heap.size := hN2.lt
          obtain ⟨W6, hW6⟩ : ∃ W6, W6 = (W5.setCell ⟨wr.heap.size, 0, none⟩ (.string y1)).setCell ⟨wr.heap.size, 1, none⟩ (.string y2) := ⟨_, rfl⟩
          have hN6 : At W6 wr.heap.size 56 #[.string y1, .string y2] := by
            rw [hW6]; have := (hN5.set 0 (.string y1)).set 1 (.string y2); simpa using this
          have hbw5 : Below wr.heap.size wr W5 := hbw2.drew.trans (hb5.mono (by omega))
          have hbw6 : Below wr.heap.size wr W6 := by rw [hW6]; exact (hbw5.setCell (by simp) _).setCell (by simp) _
          have hJ6 : J r pre W6 := hJ _ _ _ _ none hj (grown_below hbw6 none) (fun r e => by cases e)
          have hs6 := Nat.le_trans hsz hbw6.size
          have hown6 : W6.ownsRow W2.heap.size 56 2 v5 ws2.length (mcells ws2) := by
            have hne : v5.ownBlock ≠ some wr.heap.size := fun e => by have := hge5 _ e; omega
            rw [hW6]
            exact own_grown (own_grown ho5 (grown_cell W5 ⟨wr.heap.size, 0, none⟩ _) (.inl hne)) (grown_cell _ ⟨wr.heap.size, 1, none⟩ _) (.inl hne)
          have hh6 : HeldW W.heap.size 56 v xs r W6 v5 ws2 := HeldW.new hown6 hs2 (fun g e => by have := hrr g e; omega)
          rw [← hW6]
          clear hge5 hN5 n1e n2e z1e z2e e1e e2e e1d e2d e1 e2 hown6 hbw5 hbw6 hb5 ho5 HC4 HWW hrd2 hN2 hW6 hj hh hrd hxr
          -- the step is handed out; what is left is redirected
          have hyl := hY r pre (y1, y2) W6 hJ6 hs6 hpx
          obtain ⟨fn, tmps, assign, body, hy, hR⟩ := hyl
          have n1 : W6.cell? ⟨wr.heap.size, 0, none⟩ = some (.string y1) := hN6.cell 0
          have n2 : W6.cell? ⟨wr.heap.size, 1, none⟩ = some (.string y2) := hN6.cell 1
          gi_wp2
          refine hR.mono ?_
          rintro e W3 ⟨rfl, r', hJ3, hst⟩
          have hh3 := hh6.step hst
          have hs3 := Nat.le_trans hs6 hst.size
          obtain ⟨⟨_, hx3⟩, hr3⟩ := hP _ _ _ hJ3
          have hrd3 := hh3.rd hx3
          have hN3 : At W3 wr.heap.size 56 #[.string y1, .string y2] := (hst.same _ hsz hN6.lt (fun e => by have := hrr _ e.symm; omega)).trans hN6
          have m1 : W3.cell? ⟨wr.heap.size, 0, none⟩ = some (.string y1) := hN3.cell 0
          have m2 : W3.cell? ⟨wr.heap.size, 1, none⟩ = some (.string y2) := hN3.cell 1
          clear n1 n2 hN6 hh6 hJ6 hst hR hy
          gi_wp2_with fail
          refine ⟨trivial, callsIn_wide.2 ((HRE.out _ _ (y1, y2) W3 hrd3 (by omega)).mono ?_)⟩
          rintro e W4 ⟨v4, rfl, ho4, hb4⟩
          have hh4 : HeldW W.heap.size 56 v xs r' W4 v4 _ := HeldW.new ho4 hs3 hr3
          have hJ4 : J r' (pre ++ [(y1, y2)]) W4 := hJ _ _ _ _ none hJ3 (grown_below hb4 none) (fun r e => by cases e)
          have hs4 := Nat.le_trans hs3 hb4.size
          have hOR : OrdR W.heap.size 56 v xs J k v4 W4 := ⟨_, _, r', hnx.out.1, hnx.out.2.1, hnx.out.2.2.1, hnx.out.2.2.2, hJ4, hh4, hs4⟩
          clear hN3 m1 m2 hrd3 hx3 hr3 hh3 hJ3 hh4 hJ4 ho4 hb4
          gi_wp2
          go_roundw
          case rel => exact ⟨k, hOR⟩
          case measure =>
            rw [HKK.out]
            have := (leastK_spec (P := fun k => OrdR W.heap.size 56 v xs J k v4 W4) ⟨k, hOR⟩).2 _ hOR
            omega
    · have : ws = [] := List.length_eq_zero_iff.1 (by omega)
      subst this
      have hdone : J r (ordF 19 xs) wr := by
        rw [ordF_nil, List.append_nil] at hpr
        rw [← hpr]; exact hj
      gi_wp2
      go_end0
      exact ⟨⟨_, rfl⟩, r, hdone⟩
end Go.Proofs.YtfedloljhocpgaaGreatDoor
namespace Go.PM
open Go.RowKit
def bioM (xs : List Mv) : List Mv := if mvalid xs then busyF xs 9 else []
theorem bioM_yes {xs : List Mv} (h : MV xs) : bioM xs = busyF xs 9 := if_pos (by simpa [mvalid] using h)
theorem bioM_no {xs : List Mv} (h : ¬ MV xs) : bioM xs = [] := if_neg (by simpa [mvalid] using h)
theorem bioM_len (xs : List Mv) : (bioM xs).length ≤ 9 := by
  unfold bioM; split
  · exact busyF_len xs 9
  · simp
theorem Wt_nil : Wt [] := ⟨by simp, by simp, by simp, by simp, by simp [rdN]⟩
theorem bioM_Wt (xs : List Mv) : Wt (bioM xs) := by
  by_cases h : MV xs
  · rw [bioM_yes h]; exact busyF_Wt h
  · rw [bioM_no h]; exact Wt_nil
theorem bioM_tab {xs : List Mv} (h : MV xs) : mvT (noIdle (tabOf xs)) (List.range 9) = bioM xs := by
  rw [mvT_idle, bioM_yes h]
  exact lsF_congr fun p hp => srcT_M h hp
theorem bioM_zero {xs : List Mv} (h : ¬ MV xs) : mvT (noIdle (fun _ => emp)) (List.range 9) = bioM xs := by
  rw [mvT_idle, bioM_no h, ← lsF_nm]
  exact lsF_congr fun p _ => srcT_zero p
theorem ordM_bio (xs : List Mv) : ordM xs = ordF 19 (bioM xs) := by
  by_cases h : MV xs
  · rw [bioM_yes h]; unfold ordM; rw [if_pos (by simpa [mvalid] using h)]
  · rw [bioM_no h, ordF_nil]; unfold ordM; rw [if_neg (by simpa [mvalid] using h)]
end Go.PM
namespace Go.Proofs.YtfedloljhocpgaaGreatDoor
open Go.RowKit Go.PM
attribute [local go_sem] Oper.semAt_some

set_option maxRecDepth 100000 in
set_option maxHeartbeats 1600000 in
theorem busyInOrder_c (xs : List Mv) (v : Value) (w : World) (hx : RdM w v xs) :
    Calls Tryz.prog 37 #[v] w fun e w' => ∃ v', e = .returned (.tuple #[v', .bool (mvalid xs)]) ∧ w'.ownsRow w.heap.size 56 2 v' (bioM xs).length (mcells (bioM xs)) ∧ Below w.heap.size w w' := by
  obtain ⟨f, hf, hm⟩ : ∃ f, (Calls Tryz.prog 42 #[v] w fun e w' => e = .returned (.tuple #[tabX f, .bool (mvalid xs)]) ∧ Below w.heap.size w w') ∧ mvT (noIdle f) (List.range 9) = bioM xs := by
    by_cases h : MV xs
    · have := tableOf_yes xs h v w hx
      exact ⟨tabOf xs, by rw [show mvalid xs = true by simpa [mvalid] using h]; exact this, bioM_tab h⟩
    · have := tableOf_no xs h v w hx
      exact ⟨fun _ => emp, by rw [show mvalid xs = false by simpa [mvalid] using h]; exact this, bioM_zero h⟩
  have HX := Lib.hid hf
  have HLI := Lib.hid (fun W => list_c (noIdle f) W)
  rw [hm] at HLI
  clear hf hx hm
  go_enter Tryz.func37, Tryz.ntmps37
  go_wp2_with fail
  refine HX.out.mono ?_
  rintro e w1 ⟨rfl, hb1⟩
  have hs1 := hb1.size
  have k1 : At (w1.alloc (.cells (tabA f) 65)) w1.heap.size 65 (tabA f) := At.new w1 _ _
  have hB1 := hb1.alloc hs1 (.cells (tabA f) 65)
  have hs2 := hB1.size
  clear hb1
  go_wp2_with (refine ld_row rfl 65 (.tmp 4) rfl w1.heap.size 65 (tabC f) k1 (by rfl) 9 9 Tryz.underlying65 (by kernel_rfl) ?_; refine held ?_)
  unfold Held
  go_wp2_with (go_at_call 44; refine (idle_c f _).mono ?_; rintro e w5 ⟨rfl, hb5⟩; refine held ?_)
  unfold Held
  have hB5 := hB1.trans (hb5.mono hs2)
  have hs5 := hB5.size
  clear hb5 hB1
  go_wp2_with (go_at_call 45; refine (HLI.out _).mono ?_; rintro e w6 ⟨v', rfl, ho, hb6⟩; refine held ?_)
  unfold Held
  have hB6 := hB5.trans (hb6.mono hs5)
  have ho6 := own_more ho hs5
  clear hb6 hB5 ho
  go_wp2
  go_ret2
  exact ⟨_, rfl, ho6, hB6⟩
theorem orderedSteps_c (A : Option Addr) (n c : Nat) (w : World) :
    Calls Tryz.prog 39 #[.slice A n c] w fun e w' => e = .returned (.func (.func 88) #[] #[.pointer (some ⟨w.heap.size, 0, none⟩)]) ∧ w.alloc (.cells #[.slice A n c] 23) = w' := by
  go_enter Tryz.func39, Tryz.ntmps39
  go_wp2
  go_ret
  exact ⟨rfl, rfl⟩
theorem takenAhead_c (A : Option Addr) (n c : Nat) (w : World) :
    Calls Tryz.prog 43 #[.slice A n c] w fun e w' => e = .returned (.func (.func 99) #[] #[.pointer (some ⟨w.heap.size, 0, none⟩)]) ∧ w.alloc (.cells #[.slice A n c] 23) = w' := by
  go_enter Tryz.func43, Tryz.ntmps43
  go_wp2
  go_ret
  exact ⟨rfl, rfl⟩
set_option maxRecDepth 100000 in
set_option maxHeartbeats 1600000 in
theorem imOrderMoves_c (xs : List Mv) (v : Value) (w : World) (hx : RdM w v xs) :
    Calls Tryz.prog 6 #[v] w fun e w' => ∃ v', e = .returned (.tuple #[v', .bool (mvalid xs)]) ∧ w'.ownsRow w.heap.size 58 3 v' (ordM xs).length (scells (stL (ordM xs))) ∧ Below w.heap.size w w' := by
  have HB := Lib.hid (busyInOrder_c xs v w hx)
  have hwt := bioM_Wt xs
  have hln := bioM_len xs
  have HOB := Lib.hid (ordM_bio xs)
  rcases Bool.eq_false_or_eq_true (mvalid xs) with h1 | h1
  · have h1' := Lib.hid h1
    go_enter Tryz.func6, Tryz.ntmps6
    go_wp2_with fail
    refine HB.out.mono ?_
    rintro e w1 ⟨v1, he, ho1, hb1⟩
    rw [h1] at he
    subst he
    have hs1 := hb1.size
    have hbx : Below w1.heap.size w1 (w1.alloc (.cells #[v1] 23)) := (Below.refl _ _).alloc (Nat.le_refl _) _
    have hB1 := hb1.trans (hbx.mono hs1)
    have hrd : RdM (w1.alloc (.cells #[v1] 23)) v1 (bioM xs) := (Rd.of_own ho1).below hbx
    have hA : At (w1.alloc (.cells #[v1] 23)) w1.heap.size 23 #[v1] := At.new _ _ _
    have HC := Lib.hid (fun W hP => collectS_c (Pr := fun A => At A w1.heap.size 23 #[v1] ∧ RdM A v1 (bioM xs)) 88 #[] #[.pointer (some ⟨w1.heap.size, 0, none⟩)] (fun _ _ => rfl) (ordF 19 (bioM xs)) (order_iter (bioM xs) v1 w1.heap.size 4 (by omega) hwt hln) W hP (by have := ordF_len 19 (bioM xs); omega))
    obtain ⟨A1, c1, rfl, _⟩ := Rd.of_own ho1
    clear hb1 ho1 hwt hln h1
    generalize hbi : bioM xs = bi at *
    clear hbi
    go_wp2_with (go_at_call 39; refine (orderedSteps_c _ _ _ _).mono ?_; rintro e wq ⟨rfl, rfl⟩; refine held ?_)
    unfold Held
    go_wp2_with (go_at_call 38; refine (HC.out _ (fun A hAb => ⟨hA.keep hAb, hrd.below hAb⟩)).mono ?_; rintro e w2 ⟨v2, rfl, ho2, hb2⟩; refine held ?_)
    unfold Held
    have hB2 := hB1.trans (hb2.mono hB1.size)
    have ho3 := own_more ho2 hB1.size
    rw [← HOB.out] at ho3
    clear ho2 hb2 hB1 hrd hA
    go_wp2
    go_ret2
    exact ⟨_, by rw [h1'.out]; rfl, ho3, hB2⟩
  · have hno : ordM xs = [] := by unfold ordM; rw [if_neg (by rw [h1]; decide)]
    have HNO := Lib.hid hno
    clear hno
    go_enter Tryz.func6, Tryz.ntmps6
    go_wp2_with fail
    refine HB.out.mono ?_
    rintro e w1 ⟨v1, he, ho1, hb1⟩
    rw [h1] at he
    subst he
    go_wp2
    go_ret2
    exact ⟨_, by rw [h1]; rfl, by rw [HNO.out]; exact ⟨rfl, .inl ⟨rfl, rfl⟩⟩, hb1⟩
end Go.Proofs.YtfedloljhocpgaaGreatDoor
namespace Go.PD
open Go.PM Go.RowKit Go.Lib
theorem ordM_ok {xs : List Mv} (h : MV xs) : ∀ m ∈ ordM xs, (isP m.1 = true ∨ m.1 = spT) ∧ okR m.2 := by
  rw [ordM_yes h]; exact ordF_ok _ _ (busyF_Wt h)
theorem u_not {a : ByteArray} (h : okR a) : a ≠ spU := by
  intro e; subst e
  rcases h with h | h | h
  · revert h; decide
  · revert h; decide
  · revert h; decide
theorem ord_md {xs : List Mv} (h : mvalid xs = true) : mdB (stL (ordM xs)) = true := by
  have hx : MV xs := by simpa [mvalid] using h
  have hv := ordM_valid hx
  have hok := ordM_ok hx
  have hl : (ordM xs).length ≤ 19 := by rw [ordM_yes hx]; exact ordF_len _ _
  have hb : ∀ x ∈ stL (ordM xs), badX x = false := by
    intro x hxm
    unfold stL at hxm
    obtain ⟨m, hm, rfl⟩ := List.mem_map.1 hxm
    obtain ⟨h1, h2⟩ := hok m hm
    have e1 : m.1 ≠ spU := by
      rcases h1 with h1 | h1
      · exact u_not (.inl h1)
      · exact u_not (.inr (.inr h1))
    have e2 : m.2 ≠ spU := u_not h2
    unfold badX swF stpM
    simp [e1, e2]
  rw [md_good hb, hv, mkD_valid hv, Bool.true_and, decide_eq_true_eq]
  have := (mkD_len (stL (ordM xs))).2
  have e : (stL (ordM xs)).length = (ordM xs).length := by simp [stL]
  omega
def odS (xs : List Mv) : List St := if mvalid xs then mkD (stL (ordM xs)) else []
def cdI (xs : List Mv) : Int := if mvalid xs then ((odS xs).length : Int) else -1
theorem odS_yes {xs : List Mv} (h : mvalid xs = true) : odS xs = mkD (stL (ordM xs)) := if_pos h
theorem odS_no {xs : List Mv} (h : mvalid xs = false) : odS xs = [] := by unfold odS; rw [h]; rfl
theorem cdI_yes {xs : List Mv} (h : mvalid xs = true) : cdI xs = ((odS xs).length : Int) := if_pos h
theorem cdI_no {xs : List Mv} (h : mvalid xs = false) : cdI xs = -1 := by unfold cdI; rw [h]; rfl
theorem od_md {xs : List Mv} (h : mvalid xs = true) : mdS (stL (ordM xs)) = odS xs := by rw [mdS_yes (ord_md h), odS_yes h]
end Go.PD
namespace Go.Proofs.YtfedloljhocpgaaGreatDoor
open Go.RowKit Go.PM Go.PD Go.Lib

set_option maxRecDepth 100000 in
set_option maxHeartbeats 1600000 in
theorem imOrderDirect_c (xs : List Mv) (v : Value) (w : World) (hx : RdM w v xs) :
    Calls Tryz.prog 10 #[v] w fun e w' => ∃ v', e = .returned (.tuple #[v', .bool (mvalid xs)]) ∧ w'.ownsRow w.heap.size 58 3 v' (odS xs).length (scells (odS xs)) ∧ Below w.heap.size w w' := by
  have HO := Lib.hid (imOrderMoves_c xs v w hx)
  rcases Bool.eq_false_or_eq_true (mvalid xs) with h1 | h1
  · have HM := Lib.hid (ord_md h1)
    have HE := Lib.hid (od_md h1)
    have HL : Hid ((stL (ordM xs)).length = (ordM xs).length) := by show _ = _; simp [stL]
    have H1 := Lib.hid h1
    clear h1
    go_enter Tryz.func10, Tryz.ntmps10
    go_wp2_with fail
    refine HO.out.mono ?_
    rintro e w1 ⟨v1, rfl, ho, hb1⟩
    rw [H1.out]
    rw [← HL.out] at ho
    have hx1 : RdS w1 v1 (stL (ordM xs)) := Rd.of_own ho
    have HMD := Lib.hid (imMakeDirect_c (stL (ordM xs)) v1 w1 hx1)
    rw [HM.out, HE.out] at HMD
    have hs1 := hb1.size
    clear ho hx1
    go_wp2_with fail
    refine HMD.out.mono ?_
    rintro e w2 ⟨v2, rfl, ho2, hb2⟩
    have ho3 := own_more ho2 hs1
    have hb3 := hb1.trans (hb2.mono hs1)
    clear HMD ho2 hb2
    go_wp2
    go_ret2
    exact ⟨_, by rw [H1.out]; rfl, ho3, hb3⟩
  · have HE := Lib.hid (odS_no h1)
    have H1 := Lib.hid h1
    clear h1
    go_enter Tryz.func10, Tryz.ntmps10
    go_wp2_with fail
    refine HO.out.mono ?_
    rintro e w1 ⟨v1, rfl, ho, hb1⟩
    rw [H1.out]
    clear ho
    go_wp2
    go_ret2
    exact ⟨_, by rw [H1.out]; rfl, by rw [HE.out]; exact ⟨rfl, .inl ⟨rfl, rfl⟩⟩, hb1⟩
set_option maxHeartbeats 800000 in
theorem imCountDirect_c (xs : List Mv) (v : Value) (w : World) (hx : RdM w v xs) :
    Calls Tryz.prog 23 #[v] w fun e w' => e = .returned (.int .i64 (cdI xs)) ∧ Below w.heap.size w w' := by
  have HO := Lib.hid (imOrderDirect_c xs v w hx)
  have HY := Lib.hid (fun h => cdI_yes (xs := xs) h)
  have HN := Lib.hid (fun h => cdI_no (xs := xs) h)
  rcases Bool.eq_false_or_eq_true (mvalid xs) with h1 | h1
  all_goals
    have H1 := Lib.hid h1
    clear h1
    go_enter Tryz.func23, Tryz.ntmps23
    go_wp2_with fail
    refine HO.out.mono ?_
    rintro e w1 ⟨v1, rfl, ho, hb1⟩
    obtain ⟨A, cap, rfl, _⟩ := Rd.of_own ho
    rw [H1.out]
    clear ho
    go_wp2
    go_ret
    exact ⟨by first | (rw [HY.out H1.out]; rfl) | (rw [HN.out H1.out]; rfl), hb1⟩
end Go.Proofs.YtfedloljhocpgaaGreatDoor
namespace Go.PD
open Go.PM Go.RowKit Go.Lib
def sl2 (x : St) : Bool := slB x.2.1 && slB x.2.2
def sl2N (x : St) : Nat := if sl2 x then 1 else 0
theorem sl2_far {x : St} (h : x.1 = 0) : far x = sl2 x := by
  obtain ⟨k, a, b⟩ := x
  exact far_move k a b (by show ¬ k = 1; have : k = 0 := h; omega)
theorem two_sl {x : St} (h : x.1 = 0) : (two x).length = 1 + sl2N x := by
  unfold sl2N
  rw [← sl2_far h]
  cases hf : far x with
  | false => rw [two_near hf]; rfl
  | true => rw [two_far hf]; rfl
theorem mkD_sl : ∀ (xs : List St), (∀ x ∈ xs, x.1 = 0) → (mkD xs).length = xs.length + trS sl2N xs
  | [], _ => rfl
  | x :: xs, h => by
    have e : mkD (x :: xs) = two x ++ mkD xs := by simp [mkD]
    have e2 : trS sl2N (x :: xs) = sl2N x + trS sl2N xs := by simp [trS]
    rw [e, List.length_append, two_sl (h x (List.mem_cons_self ..)), mkD_sl xs (fun y hy => h y (List.mem_cons_of_mem _ hy)), e2, List.length_cons]
    omega
theorem tq_u : tq 10 = spU := by decide +kernel
theorem two_u {x : St} (h : x.1 = 0) (hu : x.2.1 ≠ spU) : (two x).any (tcX 10) = sl2 x := by
  rw [← sl2_far h]
  obtain ⟨k, a, b⟩ := x
  obtain rfl : k = 0 := h
  cases hf : far (0, a, b) with
  | false =>
    rw [two_near hf]
    show (tcX 10 (0, a, b) || false) = false
    unfold tcX
    rw [tq_u]
    have : a ≠ spU := hu
    simp [this]
  | true =>
    rw [two_far hf]
    show (tcX 10 (0, spU, b) || _) = true
    unfold tcX
    rw [tq_u]; simp
theorem mkD_u : ∀ (xs : List St), (∀ x ∈ xs, x.1 = 0 ∧ x.2.1 ≠ spU) → (mkD xs).any (tcX 10) = decide (0 < trS sl2N xs)
  | [], _ => rfl
  | x :: xs, h => by
    have e : mkD (x :: xs) = two x ++ mkD xs := by simp [mkD]
    have e2 : trS sl2N (x :: xs) = sl2N x + trS sl2N xs := by simp [trS]
    have h1 := h x (List.mem_cons_self ..)
    rw [e, List.any_append, two_u h1.1 h1.2, mkD_u xs (fun y hy => h y (List.mem_cons_of_mem _ hy)), e2]
    have e3 : sl2N x = if sl2 x then 1 else 0 := rfl
    rw [e3]
    cases sl2 x with
    | false => simp
    | true =>
      rw [if_pos rfl, Bool.true_or, eq_comm, decide_eq_true_eq]; omega
theorem stL_kind {ms : List Mv} : ∀ x ∈ stL ms, x.1 = 0 := fun x hx => by
  unfold stL at hx
  obtain ⟨m, _, rfl⟩ := List.mem_map.1 hx
  rfl
def dirF (xs : List Mv) : Nat := trS sl2N (stL (ordM xs))
theorem dir_facts {xs : List Mv} (h : mvalid xs = true) :
    irB (odS xs) xs = true ∧ dirB (odS xs) = true ∧ svalid (odS xs) = true ∧
    (((odS xs).length : Int) = cioI xs + (dirF xs : Int)) ∧ cdI xs = ((odS xs).length : Int) ∧ pmH (tcB (odS xs)) ⟨#[117]⟩ = decide (0 < dirF xs) := by
  have hx : MV xs := by simpa [mvalid] using h
  have hmd := ord_md h
  have hsv := md_sv hmd
  have hk : ∀ x ∈ stL (ordM xs), x.1 = 0 := stL_kind
  rw [odS_yes h]
  refine ⟨?_, md_dir hmd, hsv.2, ?_, by rw [cdI_yes h, odS_yes h], ?_⟩
  · have e := ordM_right hx
    rw [← irB_eq _ xs hsv.1 hx, List.all_eq_true] at e
    rw [← irB_eq _ xs hsv.2 hx, List.all_eq_true]
    intro p hp
    have e1 := e p hp
    by_cases h9 : p < 9
    · rw [if_pos h9] at e1 ⊢
      rw [md_effG hmd p h9]; exact e1
    · rw [if_neg h9] at e1 ⊢; exact e1
  · have h1 := (Go.PW.ord_facts hx).1
    have h2 := mkD_sl _ hk
    have h3 : (stL (ordM xs)).length = (ordM xs).length := by simp [stL]
    unfold dirF
    omega
  · have e : tcB (mkD (stL (ordM xs))) = pickB cellsL (tcH (mkD (stL (ordM xs)))) 11 := by unfold tcB; rw [hsv.2]; rfl
    have h1 := pmH_pick (tcH (mkD (stL (ordM xs)))) 10 (by omega)
    rw [e]
    refine h1.trans ?_
    rw [← tcI_full hsv.2 10]
    unfold tcI
    rw [List.take_length]
    refine mkD_u _ fun x hxm => ⟨hk x hxm, ?_⟩
    have hb := md_bad hmd x hxm
    unfold badX at hb
    rw [Bool.or_eq_false_iff, Bool.or_eq_false_iff, decide_eq_false_iff_not, decide_eq_false_iff_not] at hb
    exact hb.2.1
end Go.PD
namespace Go.Proofs.YtfedloljhocpgaaGreatDoor
open Go.RowKit Go.PM
set_option maxRecDepth 100000 in
set_option maxHeartbeats 2000000 in
theorem eq_str (d : Nat) (a b : ByteArray) (W : World) : (Op.equalIn (d + 1) 9 (.string a) (.string b)).run Tryz.prog W = .ok (a == b) W := by
  simp [Op.equalIn, go_sem]
theorem beq_ba (a b : ByteArray) : (a == b) = decide (a = b) := by
  cases a with | mk a =>
  cases b with | mk b =>
  have h : ((ByteArray.mk a) == (ByteArray.mk b)) = (a == b) := rfl
  rw [h]
  by_cases e : a = b
  · subst e; simp
  · have : ¬ (ByteArray.mk a) = (ByteArray.mk b) := fun x => e (congrArg ByteArray.data x)
    simp [e]
end Go.Proofs.YtfedloljhocpgaaGreatDoor
namespace Go.PM
open Go.RowKit
end Go.PM
namespace Go.Proofs.YtfedloljhocpgaaGreatDoor
open Go.RowKit Go.PM

end Go.Proofs.YtfedloljhocpgaaGreatDoor
namespace Go.PM
open Go.RowKit
end Go.PM
namespace Go.Proofs.YtfedloljhocpgaaGreatDoor
open Go.RowKit Go.PM

end Go.Proofs.YtfedloljhocpgaaGreatDoor
namespace Go.PO
open Go.PM Go.RowKit Go.PW
end Go.PO
namespace Go.Proofs.YtfedloljhocpgaaGreatDoor
open Go.RowKit Go.PM Go.PW Go.PO
attribute [local go_sem] Oper.semAt_some

end Go.Proofs.YtfedloljhocpgaaGreatDoor
namespace Go.Proofs.YtfedloljhocpgaaGreatDoor
open Go.RowKit Go.PM

end Go.Proofs.YtfedloljhocpgaaGreatDoor
namespace Go.Proofs.YtfedloljhocpgaaGreatDoor
open Go.RowKit Go.PM

set_option maxRecDepth 100000 in
set_option maxHeartbeats 2000000 in
theorem l4Exchange_c (w : World) (B r : Nat) (p : Int) (hr : Rdr w 117 B r p) (p1 : p ≤ 900000) :
    Calls Tryz.prog 35 #[.pointer (some ⟨r, 0, none⟩)] w fun e w' => ∃ v xs p', e = .returned v ∧ w'.ownsRow w.heap.size 56 2 v xs.length (mcells xs) ∧ (xs.length ≤ 65 ∧ ∀ m ∈ xs, m.1.size ≤ 64 ∧ m.2.size ≤ 64) ∧ Rdr w' 117 B r p' ∧ p' ≤ p + 100 ∧ w.grownBy w' (some r) := by
  have hlt : r < w.heap.size := by obtain ⟨_, _, v, n, _, _, h⟩ := hr; exact h.lt
  have HP := Lib.hid (pick_c w B r 3 p hr (by omega) (by omega) (by omega))
  go_enter Tryz.func35, Tryz.ntmps35
  go_wp2_with fail
  refine HP.out.mono ?_
  rintro e w1 ⟨k, rfl, k0, k1, R1, g1⟩
  have hs1 := g1.size
  clear HP
  by_cases h0 : k = 0
  · subst h0
    have HS := Lib.hid (l1Some_c w1 B r (p + 1) R1 (by omega))
    go_wp2_with fail
    refine HS.out.mono ?_
    rintro e w2 ⟨v, xs, p', rfl, ho, hsh, R2, hp', g2⟩
    have HSH := Lib.hid hsh
    have HPP : Hid (p' ≤ p + 100) := by show _ ≤ _; omega
    clear hsh
    go_wp2
    go_ret
    exact ⟨_, xs, p', rfl, own_more ho hs1, HSH.out, R2, HPP.out, grown_trans g1 g2⟩
  · have t0 : (k == 0) = false := by simpa using h0
    go_wp2_with fail
    have L5 := Lits.strs1 w1 9 #[.string ⟨#[97, 98, 99, 100]⟩, .string ⟨#[97, 98, 99]⟩, .string ⟨#[97, 98, 99, 100, 101, 102]⟩, .string ⟨#[97, 66, 99, 65]⟩, .string ⟨#[97, 98, 99, 100, 101, 102, 65, 66, 67]⟩] 40 (by rfl)
    refine (of_c _ B r w1.heap.size 5 (p + 1) (fun s => 1 ≤ s.size ∧ s.size ≤ 40) (R1.keep ((Below.refl _ _).alloc (Nat.le_refl _) _)) (by decide) (by decide) (by omega) L5 (by omega)).mono ?_
    clear L5
    rintro e w2 ⟨from_, rfl, ⟨hf1, hf2⟩, R2, g2⟩
    have G2 := grown_trans g1 (grown_trans (grown_below ((Below.refl _ _).alloc (Nat.le_refl _) (.cells #[.string ⟨#[97, 98, 99, 100]⟩, .string ⟨#[97, 98, 99]⟩, .string ⟨#[97, 98, 99, 100, 101, 102]⟩, .string ⟨#[97, 66, 99, 65]⟩, .string ⟨#[97, 98, 99, 100, 101, 102, 65, 66, 67]⟩] 9)) (some r)) g2)
    have hs2 := G2.size
    clear g1 g2 R1
    go_wp2
    go_loopw [4, 19] (fun o i wr => ∃ (j : Nat) (t : ByteArray) (q : Int), j ≤ from_.size ∧ i = .int .i64 j ∧ o = .string t ∧ t.size = j ∧ Rdr wr 117 B r q ∧ q ≤ p + 2 + (j : Int) ∧ w.grownBy wr (some r)) (fun _ i _ => from_.size - (intOf i).toNat)
    case atStart => exact ⟨0, ⟨#[]⟩, _, by omega, rfl, rfl, rfl, R2, by omega, G2⟩
    case round =>
      obtain ⟨j, t, q, hj, rfl, rfl, ht, R, hq, G⟩ := hrel
      have hsr := G.size
      by_cases hlt2 : j < from_.size
      · have i1 : (j : Int) < (from_.size : Int) := by omega
        have HP4 := Lib.hid (pick_c wr B r ((j : Int) + 1) q R (by omega) (by omega) (by omega))
        go_wp2_with fail
        refine HP4.out.mono ?_
        rintro e w4 ⟨k4, rfl, k40, k41, R4, g4⟩
        obtain ⟨K, rfl⟩ := Int.eq_ofNat_of_zero_le k40
        have G4 := grown_trans G g4
        clear g4 G R HP4
        have q1 : K ≤ t.size := by omega
        have q2 : (K : Int) ≤ (t.size : Int) := by omega
        have z1 : (t.extract 0 K).size = K := by rw [ByteArray.size_extract]; omega
        have z2 : (from_.extract j (j + 1)).size = 1 := by rw [ByteArray.size_extract]; omega
        have z3 : (t.extract K j).size = j - K := by rw [ByteArray.size_extract]; omega
        have z4 : (t.extract 0 K ++ from_.extract j (j + 1)).size = K + 1 := by rw [ByteArray.size_append]; omega
        have ZZ : Hid ((t.extract 0 K ++ from_.extract j (j + 1) ++ t.extract K j).size = j + 1) := by
          show _ = _
          rw [ByteArray.size_append]; omega
        go_wp2
        refine wp_region_quiet (C := fun w' => w' = w4.drew) (by kernel_rfl) (by kernel_rfl) rfl ?_
        simp only
        repeat (go_big_quiet_step (fail))
        refine wpQuiet_nil ?_
        intro w' hw'
        subst hw'
        have Rd4 : Rdr w4.drew 117 B r (q + 1) := R4
        have Gd4 : w.grownBy w4.drew (some r) := ⟨G4.os, G4.tape, G4.output, G4.size, G4.block⟩
        clear R4 G4
        go_wp2
        go_roundw
        case rel => exact ⟨j + 1, t.extract 0 K ++ from_.extract j (j + 1) ++ t.extract K j, q + 1, by omega, by go_num, rfl, ZZ.out, Rd4, by omega, Gd4⟩
        case measure => simp [intOf]; omega
      · have hje : j = from_.size := by omega
        have hE := World.ownsRow_lit (e := 56) (base := w.heap.size) (size := 2) wr #[] 0 hsr (Nat.zero_le _) rfl
        have RE := R.keep ((Below.refl _ _).alloc (Nat.le_refl _) (.cells #[] 56))
        have GE := grown_trans G (grown_below ((Below.refl _ _).alloc (Nat.le_refl _) (.cells #[] 56)) (some r))
        have hto : t.size = from_.size := by omega
        clear R G
        go_wp2
        have HQQ : Hid (q ≤ p + 100) := by show _ ≤ _; omega
        clear ht hj hje hq
        rename World => wo
        go_loopw [7, 43] (fun o i wr => ∃ (j : Nat) (xs : List Mv), j ≤ from_.size ∧ i = .int .i64 j ∧ xs.length = j ∧ Hid (∀ m ∈ xs, m.1.size ≤ 64 ∧ m.2.size ≤ 64) ∧ wr.ownsRow w.heap.size 56 2 o xs.length (mcells xs) ∧ Rdr wr 117 B r q ∧ w.grownBy wr (some r)) (fun _ i _ => from_.size - (intOf i).toNat)
        case atStart => exact ⟨0, [], by omega, rfl, rfl, (fun m hm => by cases hm), hE, RE, GE⟩
        case round =>
          obtain ⟨j, xs, hj, rfl, hxl, hxs, ho, R, G⟩ := hrel
          have hsr2 := G.size
          by_cases hlt2 : j < from_.size
          · have i1 : (j : Int) < (from_.size : Int) := by omega
            have z1 : (from_.extract j (j + 1)).size = 1 := by rw [ByteArray.size_extract]; omega
            have z2 : (t.extract j (j + 1)).size = 1 := by rw [ByteArray.size_extract]; omega
            have HXA : Hid (∀ m ∈ xs ++ [(from_.extract j (j + 1), t.extract j (j + 1))], m.1.size ≤ 64 ∧ m.2.size ≤ 64) := fun m hm => by
              rcases List.mem_append.1 hm with h | h
              · exact hxs.out m h
              · have e : m = (from_.extract j (j + 1), t.extract j (j + 1)) := by simpa using h
                rw [e]
                exact ⟨by show (from_.extract j (j + 1)).size ≤ 64; omega, by show (t.extract j (j + 1)).size ≤ 64; omega⟩
            generalize hx1 : from_.extract j (j + 1) = x1 at *
            generalize hx2 : t.extract j (j + 1) = x2 at *
            have hnw := two_new wr.drew (.string x1) (.string x2) 56
            have hlr : r < wr.heap.size := by have := G.size; omega
            go_wp2
            refine region_late_wide (m := 0) (C := fun w' => w' = wr.drew) (D := fun _ => True) 12 (by kernel_rfl) (by kernel_rfl) _ _ (by rfl) (by rfl) (by rfl) u7 (by intro _ _ _ h; exact h) (yieldsD_move (by rfl) _ (by rfl) u7 (by rfl)) (fun _ _ => trivial) rfl ?_
            simp only [List.take_succ_cons, List.take_zero, List.drop_succ_cons, List.drop_zero, Nat.reduceSub, Nat.reduceAdd]
            simp only [Act.put, List.setIfInBounds_toArray, List.set_cons_succ, List.set_cons_zero]
            repeat (gi_big_quiet_step (fail))
            refine wpQuietIn_nil ?_
            intro w' hw' K hK
            subst hw'
            refine sliceIn_mv (.tmp 57) rfl x1 x2 (by rfl) ?_
            refine hK _ _ trivial ?_
            clear hK K
            simp only [Act.put, List.setIfInBounds_toArray, List.set_cons_succ, List.set_cons_zero]
            have hod : wr.drew.ownsRow w.heap.size 56 2 u7 xs.length (mcells xs) := ho
            have hzd : wr.drew.heap.size = wr.heap.size := rfl
            refine listIn_mv rfl (.tmp 46) (.tmp 58) rfl w.heap.size u7 xs (x1, x2) ⟨wr.drew.heap.size, 0, none⟩ 1 (by rfl) (by rfl) (own_keep hod ((Below.refl _ _).alloc (Nat.le_refl _) _)) hnw (by omega) (by simp; omega) ?_
            intro v' w3 hown3 hgrow3
            have hge := own_block_ge ho
            have Rd3 : Rdr wr.drew 117 B r q := R
            have Gd3 : w.grownBy wr.drew (some r) := ⟨G.os, G.tape, G.output, G.size, G.block⟩
            have R6 := (Rd3.keep ((Below.refl _ _).alloc (Nat.le_refl _) (.cells #[.string x1, .string x2] 56))).grow hgrow3 (fun g e => by have := hge g e; omega)
            have G6 := grown_over (grown_trans Gd3 (grown_below ((Below.refl _ _).alloc (Nat.le_refl _) (.cells #[.string x1, .string x2] 56)) (some r))) hgrow3 hge
            clear ho R G hod Rd3 Gd3 hge hgrow3 hnw hxs
            gi_wp2
            go_wp2
            go_roundw
            case rel => exact ⟨j + 1, xs ++ [(x1, x2)], by omega, by go_num, by simp; omega, HXA, hown3, R6, G6⟩
            case measure => simp [intOf]; omega
          · have hje2 : j = from_.size := by omega
            go_wp2
            go_ret
            exact ⟨_, xs, q, rfl, ho, ⟨by omega, hxs.out⟩, R, HQQ.out, G⟩
end Go.Proofs.YtfedloljhocpgaaGreatDoor
namespace Go.PO
open Go.PM Go.RowKit Go.PW
theorem busyM_MV {xs : List Mv} (h : MV xs) : MV (busyM xs) :=
  ⟨fun m hm => h.1 m (List.mem_filter.1 hm).1, h.2.sublist ((List.filter_sublist (l := xs)).map _)⟩
theorem srcM_busy {xs : List Mv} (h : MV xs) (a : ByteArray) : srcM (busyM xs) a = srcM xs a := by
  by_cases h1 : srcM xs a = a
  · by_cases h2 : srcM (busyM xs) a = a
    · rw [h1, h2]
    · have h3 := mem_of_srcM h2
      have h4 := srcM_of_mem h (List.mem_filter.1 h3).1
      exact h4.symm
  · have h3 := mem_of_srcM h1
    have h4 : (a, srcM xs a) ∈ busyM xs := List.mem_filter.2 ⟨h3, by simpa using fun e => h1 e.symm⟩
    exact srcM_of_mem (busyM_MV h) h4
end Go.PO
namespace Go.Proofs.YtfedloljhocpgaaGreatDoor
open Go.RowKit Go.PM Go.PO

end Go.Proofs.YtfedloljhocpgaaGreatDoor
namespace Go.PO
open Go.PM Go.RowKit Go.PW
end Go.PO
namespace Go.Proofs.YtfedloljhocpgaaGreatDoor
open Go.RowKit Go.PM Go.PW Go.PO
attribute [local go_sem] Oper.semAt_some

end Go.Proofs.YtfedloljhocpgaaGreatDoor
namespace Go.PO
open Go.PM Go.RowKit Go.PW
theorem undo_MV {xs : List Mv} (h : exchB xs = true) : MV (undoM xs) := by
  rw [undoM, if_pos h]
  exact lsF_MV fun p hp => isS_nm ((exchB_M h).inv hp).1
end Go.PO
namespace Go.Proofs.YtfedloljhocpgaaGreatDoor
open Go.RowKit Go.PM Go.PO

end Go.Proofs.YtfedloljhocpgaaGreatDoor
namespace Go.PW
open Go.PM
def wheelsT (f : Nat → ByteArray) (k : Nat) : List ByteArray := (wheelsF f k).map txt
def wheelsB (xs : List Mv) : List ByteArray := if mvalid xs then wheelsT (tabOf xs) 9 else []
theorem wheelsB_len (xs : List Mv) : (wheelsB xs).length ≤ 1000 := by
  unfold wheelsB
  by_cases h : mvalid xs = true
  · rw [if_pos h]
    have := wheelsF_len (f := tabOf xs) 9
    unfold wheelsT; rw [List.length_map]; omega
  · rw [if_neg h]; simp
end Go.PW
namespace Go.Proofs.YtfedloljhocpgaaGreatDoor
open Go.RowKit Go.PM Go.PW Go.Lib

end Go.Proofs.YtfedloljhocpgaaGreatDoor
namespace Go.PG
open Go.RowKit Go.PM Go.PW Go.PS Go.PD
theorem ba_ne {t : ByteArray} (h : 1 ≤ t.size) : dashB t = t := by
  unfold dashB
  rw [if_neg]
  intro e
  rw [e] at h
  exact absurd h (by decide)
theorem mov_small {xs : List Mv} (h : MV xs) : msize xs ≤ 27 := by
  have h9 := MV_len h
  have hm : ∀ ys : List Mv, (∀ m ∈ ys, m.1.size ≤ 1 ∧ m.2.size ≤ 1) → msize ys ≤ 3 * ys.length := by
    intro ys
    induction ys with
    | nil => intro _; simp [msize]
    | cons y ys ih =>
      intro hy
      have h1 := hy y List.mem_cons_self
      have h2 := ih fun m hm => hy m (List.mem_cons_of_mem _ hm)
      simp only [msize, List.length_cons]
      omega
  have := hm xs fun m hmm => by
    have h1 := h.1 m hmm
    unfold mok at h1; rw [Bool.and_eq_true] at h1
    have h2 := isP_size h1.1
    have h3 := isS_size h1.2
    omega
  omega
theorem fmt_small {xs : List Mv} (h : MV xs) : (fmtB xs).size ≤ 55 ∧ dashB (fmtB xs) = fmtB xs := by
  have h1 := fmtL_len xs
  have h2 := mov_small h
  have hv : mvalid xs = true := by simpa [mvalid] using h
  by_cases hne : xs = []
  · rw [fmtB_none hv hne]
    exact ⟨by decide, ba_ne (by decide)⟩
  · rw [fmtB_some hv hne]
    have hp := fmtL_pos xs hne
    have hp' : 0 < (fmtL xs).length := List.length_pos_iff.2 hp
    refine ⟨?_, ba_ne ?_⟩
    · show (fmtL xs).toArray.size ≤ _; simp; omega
    · show 1 ≤ (fmtL xs).toArray.size; simp; omega
theorem sfmt_small {xs : List St} (h : svalid xs = true) : (sfmtB xs).size ≤ 241 ∧ dashB (sfmtB xs) = sfmtB xs := by
  refine ⟨?_, ba_ne (sfmtB_pos h)⟩
  by_cases hne : xs = []
  · rw [sfmtB_none h hne]; decide
  · rw [sfmtB_some h hne]
    have h1 := sfmtL_len (svalid_mem h)
    have h2 := svalid_len h
    show (sfmtL xs).toArray.size ≤ _
    simp only [List.size_toArray]
    omega
theorem joinB_size : ∀ L : List ByteArray, (joinB L).size ≤ (L.map (·.size)).sum + L.length := by
  intro L
  have h1 : (joinB L).size = (Lib.join (L.map (·.data.toList)) [32]).length := by show (Lib.join (L.map (·.data.toList)) [32]).toArray.size = _; simp
  rw [h1]
  cases L with
  | nil => simp [Lib.join_nil]
  | cons a r =>
    rw [List.map_cons, Lib.join_cons, List.length_append, Lib.joinTail_length]
    have h2 : Lib.lens (r.map (·.data.toList)) = (r.map (·.size)).sum := by
      unfold Lib.lens
      rw [List.map_map]
      congr 1
    simp only [List.map_cons, List.sum_cons, List.length_cons, List.length_map, h2, List.length_nil]
    have h3 : a.data.toList.length = a.size := by rw [Array.length_toList]; rfl
    omega
theorem txts_size : ∀ L : List (List Nat), ((L.map txt).map (·.size)).sum = L.flatten.length := by
  intro L
  induction L with
  | nil => rfl
  | cons l L ih =>
    simp only [List.map_cons, List.sum_cons, List.flatten_cons, List.length_append, ih]
    rw [txt_size]
theorem rings_small {xs : List Mv} (h : mvalid xs = true) : (joinB (ringsB xs)).size ≤ 180 := by
  have h1 := joinB_size (ringsB xs)
  have h2 := ringsF_lt (nice (SV_tab (by simpa [mvalid] using h))) 9 (by omega)
  unfold ringsB at h1 ⊢
  rw [if_pos h] at h1 ⊢
  unfold ringsT at h1 ⊢
  rw [txts_size, List.length_map] at h1
  have := h2.2.1
  have := h2.2.2
  omega
theorem closed_small {xs : List Mv} (h : mvalid xs = true) : (joinB (closedB xs)).size ≤ 180 := by
  have h1 := joinB_size (closedB xs)
  have h2 := ringsF_lt (nice (SV_tab (by simpa [mvalid] using h))) 9 (by omega)
  have hfl : ∀ (p : List Nat → Bool) (L : List (List Nat)), (L.filter p).flatten.length ≤ L.flatten.length ∧ (L.filter p).length ≤ L.length := by
    intro p L
    refine ⟨?_, List.length_filter_le _ _⟩
    induction L with
    | nil => simp
    | cons l L ih =>
      by_cases hp : p l = true
      · rw [List.filter_cons_of_pos hp, List.flatten_cons, List.flatten_cons, List.length_append, List.length_append]; omega
      · rw [List.filter_cons_of_neg hp, List.flatten_cons, List.length_append]; omega
  unfold closedB at h1 ⊢
  rw [if_pos h] at h1 ⊢
  unfold closedT at h1 ⊢
  rw [txts_size, List.length_map] at h1
  have h3 := hfl (shut1 (tabOf xs)) (ringsF (nxT (tabOf xs)) 9)
  have := h2.2.1
  have := h2.2.2
  omega
theorem wheels_small {xs : List Mv} (h : mvalid xs = true) : (joinB (wheelsB xs)).size ≤ 180 := by
  have h1 := joinB_size (wheelsB xs)
  have h2 := wheelsF_len (f := tabOf xs) 9
  have h3 := (wheelsF_flat (f := tabOf xs) 9).2
  unfold wheelsB at h1 ⊢
  rw [if_pos h] at h1 ⊢
  unfold wheelsT at h1 ⊢
  rw [txts_size, List.length_map] at h1
  omega
end Go.PG
namespace Go.Proofs.YtfedloljhocpgaaGreatDoor
open Go.RowKit Go.PM Go.PG Go.PW Go.PS Go.PD
theorem slice_of {w : World} {s n : Nat} {v : Value} {cs : List Value} (h : Rd w s v n cs) : ∃ A m c, v = .slice A m c := by obtain ⟨A, c, e, _⟩ := h; exact ⟨A, _, c, e⟩
theorem ob_at {w W : World} (h : ObA w W) {j f : Nat} {T : TypeId} (hj : ∀ N, (objA N)[j]? = some (.cells #[fnV f] T)) : w.heap.size + 2 + 1 + j < W.heap.size ∧ W.cell? ⟨w.heap.size + 2 + 1 + j, 0, none⟩ = some (fnV f) := by
  have h1 : At W (w.heap.size + 2 + 1 + j) T #[fnV f] := h j _ (hj _)
  exact ⟨h1.lt, h1.cell 0⟩
theorem gSteps (ys : Array Value) (W : World) : (callFunc 268 ys).run Tryz.prog W = .ok (.enter 268 ys) W := by kernel_rfl
theorem exeSteps_c (f j : Nat) (line : ByteArray) (hl : line.size ≤ 1048576) (hcut : cutB line 32 = (line, ⟨#[]⟩, false)) (hobj : ∀ N, (objA N)[j]? = some (.cells #[fnV f] 27)) (hlk : ∀ N, (tabA N).lookup line = some (cloV 268 (N + 1 + j)))
    (he : ∀ ys W, (callFunc f ys).run Tryz.prog W = .ok (.enter f ys) W) (xs : List Mv) (ss ys : List St) (out : ByteArray) (ho : out.size ≤ 50000000) (hsz : (sfmtB ys).size ≤ 50000000) (w : World) (hG : Sg w)
    (hF : ∀ W v, Below w.heap.size w W → RdM W v xs → Calls Tryz.prog f #[v] W fun e w' => ∃ v', e = .returned (.tuple #[v', .bool true]) ∧ w'.ownsRow W.heap.size 58 3 v' ys.length (scells ys) ∧ Below W.heap.size W w')
    (W : World) (lv sv : Value) (hb : Below w.heap.size w W) (hx : RdM W lv xs) (hs : RdS W sv ss) :
    Calls Tryz.prog 69 #[deskV lv sv out, .string line] W (ExePost W lv sv xs ys (sayB out (sfmtB ys))) := by
  have hbs := hb.size
  refine executeY_c lv sv xs xs ss ys out _ line W hx hs fun W2 hb2 => ?_
  have hB2 := hb.trans (hb2.mono hbs)
  have hx2 := hx.below hb2
  have hs2 := hs.below hb2
  have hsz2 := hb2.size
  refine behindAc_c lv sv xs xs ss ys out _ line true hl W2 hx2 hs2 hcut 268 (W2.heap.size + 2 + 1 + j) (hlk _) gSteps fun W3 hb3 hob => ?_
  have hB3 := hB2.trans (hb3.mono hB2.size)
  obtain ⟨A, n, c, rfl⟩ := slice_of hx
  obtain ⟨B, m, d, rfl⟩ := slice_of hs
  obtain ⟨o1, o2⟩ := ob_at hob hobj
  refine (stepsByF_c A n c B m d ⟨#[]⟩ out ho W3 f _ o1 o2 he ys true hsz (hG.below hB3) fun W4 hb4 => hF W4 _ (hB3.trans (hb4.mono hB3.size)) ((hx2.below hb3).below hb4)).mono ?_
  rintro e w' ⟨v', rfl, hR, hN, hb5⟩
  exact ⟨_, _, rfl, (hx2.below hb3).below hb5, hR, .inl rfl, .inr hN, hb5⟩
theorem gTexts (ys : Array Value) (W : World) : (callFunc 277 ys).run Tryz.prog W = .ok (.enter 277 ys) W := by kernel_rfl
theorem exeTexts_c (f j : Nat) (line : ByteArray) (hl : line.size ≤ 1048576) (hcut : cutB line 32 = (line, ⟨#[]⟩, false)) (hobj : ∀ N, (objA N)[j]? = some (.cells #[fnV f] 33)) (hlk : ∀ N, (tabA N).lookup line = some (cloV 277 (N + 1 + j)))
    (he : ∀ ys W, (callFunc f ys).run Tryz.prog W = .ok (.enter f ys) W) (xs : List Mv) (ss : List St) (ts : List ByteArray) (out : ByteArray) (ho : out.size ≤ 50000000) (hsz : (joinB ts).size ≤ 50000000) (htl : ts.length ≤ 1048576) (w : World)
    (hF : ∀ W v, Below w.heap.size w W → RdM W v xs → Calls Tryz.prog f #[v] W fun e w' => ∃ v', e = .returned (.tuple #[v', .bool true]) ∧ w'.ownsRow W.heap.size 9 1 v' ts.length (tcells ts) ∧ Below W.heap.size W w')
    (W : World) (lv sv : Value) (hb : Below w.heap.size w W) (hx : RdM W lv xs) (hs : RdS W sv ss) :
    Calls Tryz.prog 69 #[deskV lv sv out, .string line] W (ExePost W lv sv xs ss (sayB out (joinB ts))) := by
  have hbs := hb.size
  refine executeY_c lv sv xs xs ss ss out _ line W hx hs fun W2 hb2 => ?_
  have hB2 := hb.trans (hb2.mono hbs)
  have hx2 := hx.below hb2
  have hs2 := hs.below hb2
  refine behindAc_c lv sv xs xs ss ss out _ line true hl W2 hx2 hs2 hcut 277 (W2.heap.size + 2 + 1 + j) (hlk _) gTexts fun W3 hb3 hob => ?_
  have hB3 := hB2.trans (hb3.mono hB2.size)
  obtain ⟨A, n, c, rfl⟩ := slice_of hx
  obtain ⟨B, m, d, rfl⟩ := slice_of hs
  obtain ⟨o1, o2⟩ := ob_at hob hobj
  refine (textsByF_c A n c B m d ⟨#[]⟩ out ho W3 f _ o1 o2 he ts true hsz htl fun W4 hb4 => hF W4 _ (hB3.trans (hb4.mono hB3.size)) ((hx2.below hb3).below hb4)).mono ?_
  rintro e w' ⟨rfl, hb5⟩
  exact ⟨_, _, rfl, (hx2.below hb3).below hb5, (hs2.below hb3).below hb5, .inl rfl, .inl rfl, hb5⟩
theorem gMoves (ys : Array Value) (W : World) : (callFunc 267 ys).run Tryz.prog W = .ok (.enter 267 ys) W := by kernel_rfl
theorem exeMoves_c (f j : Nat) (line : ByteArray) (hl : line.size ≤ 1048576) (hcut : cutB line 32 = (line, ⟨#[]⟩, false)) (hobj : ∀ N, (objA N)[j]? = some (.cells #[fnV f] 30)) (hlk : ∀ N, (tabA N).lookup line = some (cloV 267 (N + 1 + j)))
    (he : ∀ ys W, (callFunc f ys).run Tryz.prog W = .ok (.enter f ys) W) (xs ys : List Mv) (ss : List St) (ok : Bool) (out : ByteArray) (ho : out.size ≤ 50000000) (hms : msize ys ≤ 1048576) (w : World) (hE : Et w)
    (hF : ∀ W v, Below w.heap.size w W → RdM W v xs → Calls Tryz.prog f #[v] W fun e w' => ∃ v', e = .returned (.tuple #[v', .bool ok]) ∧ w'.ownsRow W.heap.size 56 2 v' ys.length (mcells ys) ∧ Below W.heap.size W w')
    (W : World) (lv sv : Value) (hb : Below w.heap.size w W) (hx : RdM W lv xs) (hs : RdS W sv ss) :
    Calls Tryz.prog 69 #[deskV lv sv out, .string line] W (ExePost W lv sv (if ok then ys else xs) ss (sayB out (if ok then fmtB ys else ⟨#[110, 111]⟩))) := by
  have hbs := hb.size
  have key : ∀ W2, Below W.heap.size W W2 → Calls Tryz.prog 125 #[deskV lv sv out, .string line] W2 (BehPost W2 lv sv ys ss (sayB out (fmtB ys)) line ok) := fun W2 hb2 => by
    have hB2 := hb.trans (hb2.mono hbs)
    have hx2 := hx.below hb2
    have hs2 := hs.below hb2
    refine behindAc_c lv sv xs ys ss ss out _ line ok hl W2 hx2 hs2 hcut 267 (W2.heap.size + 2 + 1 + j) (hlk _) gMoves fun W3 hb3 hob => ?_
    have hB3 := hB2.trans (hb3.mono hB2.size)
    obtain ⟨A, n, c, rfl⟩ := slice_of hx
    obtain ⟨B, m, d, rfl⟩ := slice_of hs
    obtain ⟨o1, o2⟩ := ob_at hob hobj
    refine (movesByF_c A n c B m d ⟨#[]⟩ out ho W3 f _ o1 o2 he ys ok hms fun W4 hb4 => hF W4 _ (hB3.trans (hb4.mono hB3.size)) ((hx2.below hb3).below hb4)).mono ?_
    rintro e w' ⟨v', rfl, hR, hN, hb5⟩
    exact ⟨_, _, rfl, hR, (hs2.below hb3).below hb5, .inr hN, .inl rfl, hb5⟩
  cases ok with
  | true => exact executeY_c lv sv xs ys ss ss out _ line W hx hs key
  | false => exact executeN_c lv sv xs ys ss ss out _ line ho W (hE.below hb) hx hs key
end Go.Proofs.YtfedloljhocpgaaGreatDoor
