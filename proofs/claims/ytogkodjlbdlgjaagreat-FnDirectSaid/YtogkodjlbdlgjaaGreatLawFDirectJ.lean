/- Proved: for every input of the form's own reach the law FnDirect answers true and its arguments read afterwards as before; no further condition. -/
import Derived.Test.YtogkodjlbdlgjaaGreatLawFDirectJA
import Derived.Test.YtogkodjlbdlgjaaGreatHold
import Derived.Test.YtogkodjlbdlgjaaGreatSp1
import Derived.Test.YtogkodjlbdlgjaaGreatLawFDirectJB
import Derived.Test.YtogkodjlbdlgjaaGreatLawFDirectJC
import Derived.Test.YtogkodjlbdlgjaaGreatTouch
import Derived.ChangeKeysEq
import Derived.Test.YtogkodjlbdlgjaaGreatHar
import Derived.Test.YtogkodjlbdlgjaaGreatP2
namespace Go.PM
open Go.RowKit
/-- a move that changes what a later one reads -/
def BadO (x m : Mv) : Prop := x.1 = m.2 ∧ x.2 ≠ m.2 ∧ isD m.2 = false
instance (x m : Mv) : Decidable (BadO x m) := inferInstanceAs (Decidable (_ ∧ _))
def GoodO (xs : List Mv) : Prop := xs.Pairwise fun x m => ¬ BadO x m
instance (xs : List Mv) : Decidable (GoodO xs) := inferInstanceAs (Decidable (List.Pairwise _ _))
def ordB (xs : List Mv) : Bool := mvalid xs && decide (GoodO xs)
theorem GoodO_step (xs : List Mv) (k : Nat) (hk : k < xs.length) : GoodO (xs.take (k + 1)) ↔ GoodO (xs.take k) ∧ ∀ x ∈ xs.take k, ¬ BadO x xs[k] := by
  unfold GoodO
  rw [take_snoc xs k hk, List.pairwise_append]
  simp
theorem GoodO_take {xs : List Mv} (h : GoodO xs) (k : Nat) : GoodO (xs.take k) := List.Pairwise.sublist (List.take_sublist _ _) h
theorem ordB_no {xs : List Mv} {k : Nat} (h : ¬ GoodO (xs.take k)) : ordB xs = false := by
  unfold ordB
  rw [decide_eq_false (fun hg => h (GoodO_take hg k)), Bool.and_false]
/-- which places the moves change -/
def chgF (xs : List Mv) (q : Nat) : Bool := xs.any fun x => decide (x.1 = nm q ∧ x.1 ≠ x.2)
def boolC (f : Nat → Bool) : Array Value := #[.bool (f 0), .bool (f 1), .bool (f 2), .bool (f 3), .bool (f 4), .bool (f 5), .bool (f 6), .bool (f 7), .bool (f 8)]
theorem boolC_at (f : Nat → Bool) (p : Nat) (hp : p < 9) : (boolC f)[p]? = some (.bool (f p)) := by
  match p, hp with
  | 0, _ | 1, _ | 2, _ | 3, _ | 4, _ | 5, _ | 6, _ | 7, _ | 8, _ => rfl
theorem boolC_set (f : Nat → Bool) (p : Nat) (hp : p < 9) (b : Bool) : (boolC f).setIfInBounds p (.bool b) = boolC (fun q => if q = p then b else f q) := by
  match p, hp with
  | 0, _ | 1, _ | 2, _ | 3, _ | 4, _ | 5, _ | 6, _ | 7, _ | 8, _ => simp [boolC]
theorem boolC_congr {f g : Nat → Bool} (h : ∀ p, p < 9 → f p = g p) : boolC f = boolC g := by
  unfold boolC
  rw [h 0 (by omega), h 1 (by omega), h 2 (by omega), h 3 (by omega), h 4 (by omega), h 5 (by omega), h 6 (by omega), h 7 (by omega), h 8 (by omega)]
theorem chgF_step {xs : List Mv} (h : MV xs) (k : Nat) (hk : k < xs.length) : boolC (fun q => if q = pidx xs[k].1 then decide (xs[k].1 ≠ xs[k].2) else chgF (xs.take k) q) = boolC (chgF (xs.take (k + 1))) := by
  have hm := h.1 _ (List.getElem_mem hk)
  unfold mok at hm; rw [Bool.and_eq_true] at hm
  have hp := pidx_spec hm.1
  have hkey := ((MV_step k hk).1 (MV_take h (k + 1))).2.2
  refine boolC_congr fun q hq => ?_
  unfold chgF
  rw [take_snoc xs k hk, List.any_append, List.any_cons, List.any_nil, Bool.or_false]
  by_cases e : q = pidx xs[k].1
  · subst e
    rw [if_pos rfl, hp.2]
    have h0 : (xs.take k).any (fun x => decide (x.1 = xs[k].1 ∧ x.1 ≠ x.2)) = false := by
      rw [List.any_eq_false]
      intro x hx e2
      rw [decide_eq_true_eq] at e2
      exact hkey (List.mem_map.2 ⟨x, hx, e2.1⟩)
    rw [h0, Bool.false_or, decide_eq_decide]
    exact ⟨fun h => ⟨rfl, h⟩, fun h => h.2⟩
  · rw [if_neg e]
    have : decide (xs[k].1 = nm q ∧ xs[k].1 ≠ xs[k].2) = false := by
      rw [decide_eq_false_iff_not]
      intro h2
      exact e (by rw [h2.1, pidx_nm hq])
    rw [this, Bool.or_false]
theorem chg_bad {xs : List Mv} (k : Nat) (hk : k < xs.length) (hp : isP xs[k].2 = true) (hc : chgF (xs.take k) (pidx xs[k].2) = true) : ¬ GoodO (xs.take (k + 1)) := by
  rw [GoodO_step xs k hk]
  rintro ⟨_, h⟩
  unfold chgF at hc
  rw [(pidx_spec hp).2, List.any_eq_true] at hc
  obtain ⟨x, hx, e⟩ := hc
  rw [decide_eq_true_eq] at e
  exact h x hx ⟨e.1, fun e2 => e.2 (e.1.trans e2.symm), (isP_cases hp).1⟩
theorem chg_good {xs : List Mv} (k : Nat) (hk : k < xs.length) (hg : GoodO (xs.take k)) (hc : isP xs[k].2 = true → chgF (xs.take k) (pidx xs[k].2) = false) (hs : isS xs[k].2 = true) : GoodO (xs.take (k + 1)) := by
  rw [GoodO_step xs k hk]
  refine ⟨hg, fun x hx hb => ?_⟩
  unfold isS at hs
  rw [Bool.or_eq_true] at hs
  rcases hs with hp | hd
  · have := hc hp
    unfold chgF at this
    rw [(pidx_spec hp).2, List.any_eq_false] at this
    exact this x hx (by rw [decide_eq_true_eq]; exact ⟨hb.1, fun e => hb.2.1 (e.symm.trans hb.1)⟩)
  · rw [hb.2.2] at hd; cases hd
end Go.PM
namespace Go.Proofs.YtogkodjlbdlgjaaGreat
open Go.RowKit Go.PM

end Go.Proofs.YtogkodjlbdlgjaaGreat
namespace Go.PM
open Go.RowKit Go.PW
/-- moves that can be done as they stand do themselves -/
theorem ord_run {xs : List Mv} (h : MV xs) (hg : GoodO xs) : ∀ k, k ≤ xs.length → ∀ p, p < 9 → runM (xs.take k) nmT p = if nm p ∈ (xs.take k).map (·.1) then rdS nmT (srcM xs (nm p)) else nmT p := by
  intro k
  induction k with
  | zero => intro _ p _; simp [runM]
  | succ k ih =>
    intro hk p hp
    have hlt : k < xs.length := by omega
    have ih := ih (by omega)
    have hm := h.1 _ (List.getElem_mem hlt)
    unfold mok at hm; rw [Bool.and_eq_true] at hm
    have hP := pidx_spec hm.1
    have hC := cidx_P hm.1
    have hsrc : srcM xs xs[k].1 = xs[k].2 := srcM_of_mem h (List.getElem_mem hlt)
    have hgk := (GoodO_step xs k hlt).1 (GoodO_take hg (k + 1))
    -- what the move reads is as at the start
    have hrd : rdS (runM (xs.take k) nmT) xs[k].2 = rdS nmT xs[k].2 := by
      rcases Bool.eq_false_or_eq_true (isC xs[k].2) with hc | hc
      · rw [rdS_cell hc, rdS_cell hc]
        have hp2 : isP xs[k].2 = true := by
          have hs := hm.2
          unfold isS at hs
          rw [Bool.or_eq_true] at hs
          rcases hs with hs | hs
          · exact hs
          · rw [isD_notC hs] at hc; cases hc
        have hq := cidx_P hp2
        rw [ih _ hq.2.1, hq.2.2]
        split
        · next hin =>
          obtain ⟨x, hx, ex⟩ := List.mem_map.1 hin
          have hnb := hgk.2 x hx
          have hx2 : x.2 = xs[k].2 := Classical.not_not.1 fun hne => hnb ⟨ex, hne, (isP_cases hp2).1⟩
          have hxs : srcM xs x.1 = x.2 := srcM_of_mem h (List.mem_of_mem_take hx)
          have ex' : x.1 = xs[k].2 := ex
          rw [ex'] at hxs
          rw [hxs, hx2, rdS_cell hc]
        · rfl
      · rw [rdS_digit hc, rdS_digit hc]
    have hrun : runM (xs.take (k + 1)) nmT = updS (runM (xs.take k) nmT) (cidx xs[k].1) (rdS (runM (xs.take k) nmT) xs[k].2) := by
      unfold runM
      rw [take_snoc xs k hlt, List.foldl_append]; rfl
    rw [hrun, hrd]
    have hkeys : nm p ∈ (xs.take (k + 1)).map (·.1) ↔ nm p ∈ (xs.take k).map (·.1) ∨ nm p = xs[k].1 := by
      rw [take_snoc xs k hlt, List.map_append, List.mem_append]; simp
    by_cases e : nm p = xs[k].1
    · have hpc : cidx xs[k].1 = p := by rw [← e, (cidx_nm hp).2]
      rw [updS, if_pos hpc.symm, if_pos (hkeys.2 (.inr e)), e, hsrc]
    · have hpc : p ≠ cidx xs[k].1 := fun e2 => e (by rw [e2]; exact hC.2.2)
      rw [updS, if_neg hpc, ih p hp]
      by_cases hin : nm p ∈ (xs.take k).map (·.1)
      · rw [if_pos hin, if_pos (hkeys.2 (.inl hin))]
      · rw [if_neg hin, if_neg (fun h2 => (hkeys.1 h2).elim hin e)]
theorem ord_right {xs : List Mv} (h : ordB xs = true) : irB (stL xs) xs = true := by
  unfold ordB at h
  rw [Bool.and_eq_true, decide_eq_true_eq] at h
  have hMV : MV xs := by simpa [mvalid] using h.1
  have hl := MV_len hMV
  refine right_of_run (svalid_stL (by omega) fun m hm => ?_) hMV fun p hp => ?_
  · have := hMV.1 m hm
    unfold mok isS at this
    rw [Bool.and_eq_true, Bool.or_eq_true] at this
    refine ⟨.inl this.1, ?_⟩
    rcases this.2 with h2 | h2
    · exact .inl h2
    · exact .inr (.inl h2)
  · have := ord_run hMV h.2 xs.length (Nat.le_refl _) p hp
    rw [List.take_length] at this
    rw [this]
    split
    · rfl
    · next hn =>
      have : srcM xs (nm p) = nm p := srcM_none hn
      rw [this, rdS_nm nmT hp]
/-- what is taken ahead: no taken move's place is read by a later one -/
theorem takF_facts : ∀ (n : Nat) (ws : List Mv), (ws.map (·.1)).Nodup → (takF n ws).Pairwise (fun x m => x.1 ≠ m.2) ∧ ((takF n ws).map (·.1)).Nodup ∧ (∀ m ∈ takF n ws, m ∈ ws) ∧ (ws.length ≤ n → (takF n ws).length = ws.length → ∀ m ∈ ws, m ∈ takF n ws)
  | 0, ws, _ => by
    refine ⟨List.Pairwise.nil, List.nodup_nil, fun m h => (by cases h), fun h _ m hm => ?_⟩
    have : ws = [] := List.length_eq_zero_iff.1 (by omega)
    rw [this] at hm; cases hm
  | n + 1, ws, hk => by
    cases ha : aheadI ws with
    | none =>
      rw [takF_none ha]
      refine ⟨List.Pairwise.nil, List.nodup_nil, fun m h => (by cases h), fun _ h m hm => ?_⟩
      have : ws = [] := List.length_eq_zero_iff.1 h.symm
      rw [this] at hm; cases hm
    | some i =>
      obtain ⟨hi, hf⟩ := aheadI_some ha
      rw [takF_some hi ha]
      have hk2 : ((ws.eraseIdx i).map (·.1)).Nodup := hk.sublist ((List.eraseIdx_sublist ws i).map _)
      obtain ⟨f1, f2, f3, f4⟩ := takF_facts n (ws.eraseIdx i) hk2
      refine ⟨List.Pairwise.cons (fun m hm e => rdN_zero.1 hf m (erase_mem (f3 m hm)) e.symm) f1, ?_, fun m hm => ?_, fun hl he m hm => ?_⟩
      · rw [List.map_cons, List.nodup_cons]
        refine ⟨fun hmem => ?_, f2⟩
        obtain ⟨x, hx, e⟩ := List.mem_map.1 hmem
        exact erase_key hk hi x (f3 x hx) e
      · rw [List.mem_cons] at hm
        rcases hm with rfl | hm
        · exact List.getElem_mem hi
        · exact erase_mem (f3 m hm)
      · rw [List.length_cons] at he
        have hle : (ws.eraseIdx i).length = ws.length - 1 := List.length_eraseIdx_of_lt hi
        rw [List.mem_cons]
        rcases erase_or hi hm with h2 | h2
        · exact .inl h2
        · exact .inr (f4 (by omega) (by omega) m h2)
theorem busyF_MV {xs : List Mv} (h : MV xs) : MV (busyF xs 9) := by
  have hl : busyF xs 9 = lsF (fun p => srcM xs (nm p)) 9 := rfl
  rw [hl]; exact lsF_MV (SVal_M h)
theorem busyF_mem {xs : List Mv} (h : MV xs) (m : Mv) : m ∈ busyF xs 9 ↔ m ∈ xs ∧ m.1 ≠ m.2 := by
  have hl : busyF xs 9 = lsF (fun p => srcM xs (nm p)) 9 := rfl
  rw [hl]
  constructor
  · intro hm
    obtain ⟨p, _, hne, e⟩ := lsF_mem hm
    rw [e]
    exact ⟨mem_of_srcM hne, fun e => hne e.symm⟩
  · rintro ⟨hm, hne⟩
    have hok := h.1 m hm
    unfold mok at hok; rw [Bool.and_eq_true] at hok
    have hp := pidx_spec hok.1
    have hs := srcM_of_mem h hm
    refine List.mem_map.2 ⟨pidx m.1, List.mem_filter.2 ⟨List.mem_range.2 hp.1, ?_⟩, ?_⟩
    · unfold lsH
      simp only [hp.2, hs, decide_eq_true_eq]
      exact fun e => hne e.symm
    · simp only [hp.2, hs]
theorem wsp_good {xs : List Mv} (h : wspB xs = true) : ordB (wspM xs) = true ∧ sameM (wspM xs) xs = true := by
  have hw : wspM xs = takM xs := by unfold wspM; rw [if_pos h]
  unfold wspB at h
  rw [Bool.and_eq_true, decide_eq_true_eq] at h
  have hMV : MV xs := by simpa [mvalid] using h.1
  have hB := busyF_MV hMV
  obtain ⟨f1, f2, f3, f4⟩ := takF_facts 9 (busyF xs 9) hB.2
  have hT : MV (takM xs) := ⟨fun m hm => hB.1 m (f3 m hm), f2⟩
  rw [hw]
  constructor
  · unfold ordB
    rw [Bool.and_eq_true, decide_eq_true_eq]
    refine ⟨by simpa [mvalid] using hT, List.Pairwise.imp ?_ f1⟩
    intro x m hne hb
    exact hne hb.1
  · have h4 := f4 (busyF_len xs 9) h.2
    have key : ∀ a, srcM (takM xs) a = srcM xs a := fun a => by
      by_cases h0 : srcM (takM xs) a = a
      · by_cases h1 : srcM xs a = a
        · rw [h0, h1]
        · have h3 := mem_of_srcM h1
          exact srcM_of_mem hT (h4 _ ((busyF_mem hMV (a, srcM xs a)).2 ⟨h3, fun e => h1 e.symm⟩))
      · have h3 := f3 _ (mem_of_srcM h0)
        exact (srcM_of_mem hMV ((busyF_mem hMV _).1 h3).1).symm
    unfold sameM
    rw [show mvalid (takM xs) = true by simpa [mvalid] using hT, h.1, Bool.true_and, Bool.true_and, List.all_eq_true]
    intro p _
    unfold sameAt
    rw [key, decide_eq_true rfl]
/-- moves that wait for one another are never taken -/
theorem takF_ring (R : Mv → Prop) : ∀ (n : Nat) (ws : List Mv), (∃ m, R m) → (∀ m, R m → m ∈ ws ∧ ∃ x, R x ∧ x.2 = m.1) → (takF n ws).length < ws.length
  | 0, ws, ⟨m, hm⟩, hR => by
    have := List.length_pos_of_mem (hR m hm).1
    exact this
  | n + 1, ws, hne, hR => by
    cases ha : aheadI ws with
    | none =>
      rw [takF_none ha]
      obtain ⟨m, hm⟩ := hne
      exact List.length_pos_of_mem (hR m hm).1
    | some i =>
      obtain ⟨hi, hf⟩ := aheadI_some ha
      rw [takF_some hi ha, List.length_cons]
      have hz := rdN_zero.1 hf
      have := takF_ring R n (ws.eraseIdx i) hne (fun m hm => by
        obtain ⟨h1, x, hx, ex⟩ := hR m hm
        refine ⟨?_, x, hx, ex⟩
        rcases erase_or hi h1 with e | e
        · exact absurd (by rw [ex, e]) (hz x (hR x hx).1)
        · exact e)
      rw [List.length_eraseIdx_of_lt hi] at this
      omega
/-- where not all are taken, some wait for one another -/
theorem takF_left : ∀ (n : Nat) (ws : List Mv), Wt ws → ws.length ≤ n → (takF n ws).length < ws.length → ∃ vs : List Mv, vs ≠ [] ∧ (∀ m ∈ vs, m ∈ ws) ∧ ∀ m ∈ vs, ∃ x ∈ vs, x.1 = m.2
  | 0, ws, _, hl, h => by omega
  | n + 1, ws, hw, hl, h => by
    cases ha : aheadI ws with
    | none =>
      rw [takF_none ha] at h
      refine ⟨ws, fun e => by rw [e] at h; simp at h, fun m hm => hm, (hw.full ha).2.1⟩
    | some i =>
      obtain ⟨hi, hf⟩ := aheadI_some ha
      rw [takF_some hi ha, List.length_cons] at h
      have hle : (ws.eraseIdx i).length = ws.length - 1 := List.length_eraseIdx_of_lt hi
      obtain ⟨vs, h1, h2, h3⟩ := takF_left n (ws.eraseIdx i) (hw.erase i) (by omega) (by omega)
      exact ⟨vs, h1, fun m hm => erase_mem (h2 m hm), h3⟩
theorem busy_nx {xs : List Mv} (h : MV xs) {m : Mv} (hm : m ∈ busyF xs 9) : nxT (tabOf xs) (pidx m.1) = some (sidx m.2) ∧ isP m.1 = true ∧ m.2 = sn (sidx m.2) ∧ sidx m.2 < 19 := by
  have hB := (busyF_MV h).1 m hm
  unfold mok at hB; rw [Bool.and_eq_true] at hB
  have hp := pidx_spec hB.1
  have hs := sidx_spec hB.2
  have hx := (busyF_mem h m).1 hm
  have hsrc : srcT (tabOf xs) (pidx m.1) = m.2 := by rw [srcM_place h hB.1, srcM_of_mem h hx.1]
  have hsx : sx (tabOf xs) (pidx m.1) = sidx m.2 := by unfold sx; rw [hsrc]
  refine ⟨?_, hB.1, hs.2.symm, hs.1⟩
  rw [nxT_some hp.1 (by rw [hsx]; intro e; apply hx.2; rw [← hp.2, ← hs.2, e, sn_nm _ hp.1]), hsx]
theorem wsp_rings {xs : List Mv} (h : MV xs) : wspB xs = decide (ringsF (nxT (tabOf xs)) 9 = []) := by
  have hf := SV_tab h
  have hn := nice hf
  have hw : wspB xs = decide ((takM xs).length = (busyF xs 9).length) := by
    unfold wspB; rw [show mvalid xs = true by simpa [mvalid] using h]; rfl
  rw [hw, decide_eq_decide]
  constructor
  · intro heq
    refine Classical.byContradiction fun hne => ?_
    obtain ⟨l, hl⟩ := List.exists_mem_of_ne_nil _ hne
    obtain ⟨s, hs9, rfl, hon, _⟩ := ringsF_mem2 9 l hl
    have hs19 : s < 19 := by omega
    have hO := (onRb_iff hn hs19).1 hon
    have hall := ring_all hn hs19 hO
    -- the moves of the ring
    have hmv : ∀ p, p ∈ way (nxT (tabOf xs)) s → p < 9 ∧ (nm p, srcM xs (nm p)) ∈ busyF xs 9 ∧ nxT (tabOf xs) p = some (sx (tabOf xs) p) := fun p hp => by
      have hp9 := ring_low hn (hall p hp)
      have hne2 : sx (tabOf xs) p ≠ p := fun e => by
        obtain ⟨k, hk, ek⟩ := hall p hp
        obtain ⟨k, rfl⟩ : ∃ m, k = m + 1 := ⟨k - 1, by omega⟩
        rw [show k + 1 = 1 + k by omega, orb_add] at ek
        simp only [orb, Option.bind_some, nxT_stay hp9 e] at ek
        cases ek
      refine ⟨hp9, ?_, nxT_some hp9 hne2⟩
      have hsrc : srcM xs (nm p) ≠ nm p := fun e => by
        rw [← srcM_nm h hp9] at e
        exact hne2 ((src_self hf hp9).1 e)
      exact (busyF_mem h _).2 ⟨mem_of_srcM hsrc, fun e => hsrc e.symm⟩
    have := takF_ring (fun m => ∃ p, p ∈ way (nxT (tabOf xs)) s ∧ m = (nm p, srcM xs (nm p))) 9 (busyF xs 9)
      ⟨_, s, List.mem_of_getElem? ((way_rho hn hs19).at_ 0 (way_rho hn hs19).pos), rfl⟩ (by
        rintro m ⟨p, hp, rfl⟩
        refine ⟨(hmv p hp).2.1, ?_⟩
        -- its reader on the ring
        obtain ⟨k, hk, ek⟩ := hall p hp
        obtain ⟨k, rfl⟩ : ∃ m, k = m + 1 := ⟨k - 1, by omega⟩
        have ek' := ek
        simp only [orb, Option.bind_eq_some_iff] at ek'
        obtain ⟨q, hq1, hq2⟩ := ek'
        have hqw := ring_orb hn hs19 hon hp k q hq1
        obtain ⟨hq9, _, hqn⟩ := hmv q hqw
        rw [hqn] at hq2
        have hsxq : sx (tabOf xs) q = p := Option.some.inj hq2
        refine ⟨(nm q, srcM xs (nm q)), ⟨q, hqw, rfl⟩, ?_⟩
        show srcM xs (nm q) = nm p
        rw [← srcM_nm h hq9, ← (sx_lt hf hq9).2, hsxq, sn_nm p (hmv p hp).1])
    unfold takM at heq
    omega
  · intro hr
    refine Classical.byContradiction fun hne => ?_
    have hlt : (takF 9 (busyF xs 9)).length < (busyF xs 9).length := by
      have := takF_len 9 (busyF xs 9)
      unfold takM at hne
      omega
    obtain ⟨vs, hv0, hv1, hv2⟩ := takF_left 9 (busyF xs 9) (busyF_Wt h) (busyF_len xs 9) hlt
    obtain ⟨m0, hm0⟩ := List.exists_mem_of_ne_nil _ hv0
    -- the way from there never ends
    have hway : ∀ k, ∃ m ∈ vs, orb (nxT (tabOf xs)) (pidx m0.1) k = some (pidx m.1) := by
      intro k
      induction k with
      | zero => exact ⟨m0, hm0, rfl⟩
      | succ k ih =>
        obtain ⟨m, hm, e⟩ := ih
        obtain ⟨x, hx, ex⟩ := hv2 m hm
        have hb := busy_nx h (hv1 m hm)
        have hxP := (busy_nx h (hv1 x hx)).2.1
        refine ⟨x, hx, ?_⟩
        simp only [orb, e, Option.bind_some, hb.1]
        rw [ex, Option.some.injEq]
        exact sidx_pidx (by rw [← ex]; exact hxP)
    have hlt9 : ∀ k, k ≤ 9 → ((orb (nxT (tabOf xs)) (pidx m0.1) k).getD 0) < 9 := fun k _ => by
      obtain ⟨m, hm, e⟩ := hway k
      rw [e]
      exact (pidx_spec (busy_nx h (hv1 m hm)).2.1).1
    obtain ⟨i, j, hij, _, e⟩ := pigeon 9 (fun k => (orb (nxT (tabOf xs)) (pidx m0.1) k).getD 0) hlt9
    obtain ⟨mi, hmi, ei⟩ := hway i
    obtain ⟨mj, hmj, ej⟩ := hway j
    simp only [ei, ej, Option.getD_some] at e
    have hq9 := (pidx_spec (busy_nx h (hv1 mi hmi)).2.1).1
    have hon : OnR (nxT (tabOf xs)) (pidx mi.1) := by
      refine ⟨j - i, by omega, ?_⟩
      have := orb_add (nx := nxT (tabOf xs)) (pidx m0.1) i (j - i)
      rw [show i + (j - i) = j by omega, ej, ei] at this
      rw [e]
      simpa [e] using this.symm
    have := ringsF_in hn hq9 ((onRb_iff hn (by omega)).2 hon) 9 hq9
    rw [hr] at this
    cases this
end Go.PM
namespace Go.PM
open Go.RowKit
theorem cell_inj : ∀ p < 11, ∀ q < 11, cellsL.getD q 0 = cellsL.getD p 0 → q = p := by decide +kernel
theorem pmH_pick (h : Nat → Bool) (p : Nat) (hp : p < 11) : pmH (pickB cellsL h 11) ⟨#[cellsL.getD p 0]⟩ = h p := by
  rw [pmH_one, Bool.eq_iff_iff, decide_eq_true_eq]
  unfold pickB pickL
  simp only [List.mem_map, List.mem_filter, List.mem_range]
  constructor
  · rintro ⟨q, ⟨hq, hh⟩, e⟩
    rw [cell_inj p hp q hq e] at hh; exact hh
  · intro hh; exact ⟨p, ⟨hp, hh⟩, rfl⟩
theorem nm_tq {p : Nat} (hp : p < 9) : nm p = tq p := by
  match p, hp with
  | 0, _ | 1, _ | 2, _ | 3, _ | 4, _ | 5, _ | 6, _ | 7, _ | 8, _ => decide +kernel
theorem tq_cell {p : Nat} (hp : p < 11) : isC (tq p) = true ∧ cidx (tq p) = p := by
  match p, hp with
  | 0, _ | 1, _ | 2, _ | 3, _ | 4, _ | 5, _ | 6, _ | 7, _ | 8, _ | 9, _ | 10, _ => decide +kernel
theorem tq_of {a : ByteArray} (h : isC a = true) : tq (cidx a) = a := by
  obtain ⟨c, rfl⟩ := one_of_size (isC_size h)
  have h2 : c ∈ cellsL := by simpa [isC] using h
  show (⟨#[cellsL.getD (cidx ⟨#[c]⟩) 0]⟩ : ByteArray) = _
  rw [(cidx_one h2).2.2]
theorem st_kind {x : St} (h : stOk x = true) : (x.1 = 0 ∧ isC x.2.1 = true ∧ okC x.2.2 = true) ∨ (x.1 = 1 ∧ isC x.2.1 = true ∧ isC x.2.2 = true) := by
  unfold stOk at h
  rw [Bool.or_eq_true] at h
  rcases h with h | h
  · simp only [Bool.and_eq_true, decide_eq_true_eq] at h
    exact .inl ⟨h.1, h.2.1, h.2.2⟩
  · simp only [Bool.and_eq_true, decide_eq_true_eq] at h
    exact .inr ⟨h.1, h.2.1, h.2.2⟩
/-- steps give in every state what they give to names -/
theorem run_names (xs : List St) (h : svalid xs = true) (f : Nat → UInt8) : ∀ k, k ≤ xs.length → ∀ p, p < 11 → runS xs k f p = rdS f ⟨#[runS xs k nmT p]⟩ := by
  intro k
  induction k with
  | zero =>
    intro _ p hp
    rw [runS_zero, runS_zero]
    have := tq_cell hp
    show f p = rdS f (tq p)
    rw [rdS_cell this.1, this.2]
  | succ k ih =>
    intro hk p hp
    have ih := ih (by omega)
    have hkl : k < xs.length := by omega
    rw [runS_succ xs k hkl, runS_succ xs k hkl]
    have hv := svalid_at h k hkl
    generalize xs[k] = x at hv
    generalize runS xs k f = f1 at ih
    generalize runS xs k nmT = g1 at ih
    unfold doS
    rcases st_kind hv with ⟨h1, h2, h3⟩ | ⟨h1, h2, h3⟩
    · rw [if_neg (by omega), if_neg (by omega)]
      unfold updS
      by_cases hpq : p = cidx x.2.1
      · rw [if_pos hpq, if_pos hpq]
        by_cases hc : isC x.2.2 = true
        · rw [rdS_cell hc, rdS_cell hc, ih _ (cidx_lt hc)]
        · have hc' : isC x.2.2 = false := by simpa using hc
          have h4 := fc_one (okC_size h3)
          rw [rdS_digit hc', rdS_digit hc', ← h4, rdS_digit hc']
      · rw [if_neg hpq, if_neg hpq]; exact ih p hp
    · rw [if_pos h1, if_pos h1]
      unfold swS
      by_cases hp1 : p = cidx x.2.1
      · rw [if_pos hp1, if_pos hp1]; exact ih _ (cidx_lt h3)
      · rw [if_neg hp1, if_neg hp1]
        by_cases hp2 : p = cidx x.2.2
        · rw [if_pos hp2, if_pos hp2]; exact ih _ (cidx_lt h2)
        · rw [if_neg hp2, if_neg hp2]; exact ih p hp
/-- what is not touched stays -/
theorem run_stays (xs : List St) (h : svalid xs = true) (f : Nat → UInt8) {p : Nat} (_hp : p < 11) : ∀ k, k ≤ xs.length → tcI xs p k = false → runS xs k f p = f p := by
  intro k
  induction k with
  | zero => intro _ _; rw [runS_zero]
  | succ k ih =>
    intro hk ht
    have hkl : k < xs.length := by omega
    rw [tcI_succ xs p k hkl, Bool.or_eq_false_iff] at ht
    have ih := ih (by omega) ht.1
    rw [runS_succ xs k hkl]
    have hv := svalid_at h k hkl
    have ht2 := ht.2
    generalize xs[k] = x at hv ht2
    generalize runS xs k f = f1 at ih
    unfold tcX at ht2
    rw [Bool.or_eq_false_iff, decide_eq_false_iff_not] at ht2
    have hne : ∀ a, isC a = true → a ≠ tq p → p ≠ cidx a := fun a ha hn e => hn (by rw [e, tq_of ha])
    unfold doS
    rcases st_kind hv with ⟨h1, h2, h3⟩ | ⟨h1, h2, h3⟩
    · rw [if_neg (by omega)]
      unfold updS
      rw [if_neg (hne _ h2 ht2.1)]; exact ih
    · rw [if_pos h1]
      have h4 : x.2.2 ≠ tq p := by simpa [h1] using ht2.2
      unfold swS
      rw [if_neg (hne _ h2 ht2.1), if_neg (hne _ h3 h4)]; exact ih
theorem tcB_pmH {xs : List St} (h : svalid xs = true) {p : Nat} (hp : p < 9) : pmH (tcB xs) (nm p) = tcH xs p := by
  have e : tcB xs = pickB cellsL (tcH xs) 11 := by unfold tcB; rw [h]; rfl
  rw [e, nm_tq hp]
  exact pmH_pick (tcH xs) p (by omega)
/-- the moves that steps do are of touched places -/
theorem eff_touched (xs : List St) : ∀ m ∈ effM xs, m.1 ≠ m.2 ∧ pmH (tcB xs) m.1 = true := by
  intro m hm
  rcases Bool.eq_false_or_eq_true (effOk xs) with ho | ho
  · rw [effM_yes ho] at hm
    have hv : svalid xs = true := by unfold effOk at ho; rw [Bool.and_eq_true] at ho; exact ho.1
    obtain ⟨h1, h2⟩ := List.mem_filter.1 hm
    have h2 : m.1 ≠ m.2 := by simpa using h2
    refine ⟨h2, ?_⟩
    obtain ⟨p, hp, rfl⟩ := List.mem_map.1 h1
    have hp9 : p < 9 := by simpa using hp
    show pmH (tcB xs) (nm p) = true
    rw [tcB_pmH hv hp9, ← tcI_full hv p]
    rcases Bool.eq_false_or_eq_true (tcI xs p xs.length) with ht | ht
    · exact ht
    · exfalso
      have := run_stays xs hv nmT (show p < 11 by omega) xs.length (Nat.le_refl _) ht
      apply h2
      show nm p = ⟨#[effG xs p]⟩
      rw [nm_tq hp9]
      show tq p = ⟨#[runS xs xs.length nmT p]⟩
      rw [this]; rfl
  · rw [effM_no ho] at hm; cases hm
/-- done at once they give to places what the steps give -/
theorem eff_once {xs : List St} (ho : effOk xs = true) {s : ByteArray} (hs : stateV s = true) :
    (mvalid (effM xs) && stateV s) = true ∧ (aoB (effM xs) s).extract 0 9 = (ioB xs s).extract 0 9 ∧ irB xs (effM xs) = true ∧ (aoB (effM xs) s).size = 11 ∧ (ioB xs s).size = 11 := by
  have hv : svalid xs = true := by unfold effOk at ho; rw [Bool.and_eq_true] at ho; exact ho.1
  have hmv : MV (effL (effG xs) 9) := by
    unfold effOk at ho; rw [Bool.and_eq_true] at ho
    simpa [mvalid] using ho.2
  have hM : MV (effM xs) := by rw [effM_yes ho]; exact busyM_MV hmv
  have m1 : mvalid (effM xs) = true := by simpa [mvalid] using hM
  have e1 : aoB (effM xs) s = stB (aoS (tabOf (effM xs)) (ofB s)) := by unfold aoB; rw [m1, hs]; rfl
  have e2 : ioB xs s = stB (runS xs xs.length (ofB s)) := by unfold ioB; rw [hv, hs]; rfl
  refine ⟨by rw [m1, hs]; rfl, ?_, ?_, by rw [e1]; rfl, by rw [e2]; rfl⟩
  · have key : ∀ p, p < 9 → aoS (tabOf (effM xs)) (ofB s) p = runS xs xs.length (ofB s) p := fun p hp => by
      have hk : srcM (effM xs) (nm p) = ⟨#[effG xs p]⟩ := by rw [effM_yes ho, srcM_busy _ _ hmv.2, srcM_effL _ p hp]
      unfold aoS
      rw [if_pos hp, srcM_nm hM hp, hk, run_names xs hv (ofB s) xs.length (Nat.le_refl _) p (by omega)]
      rfl
    rw [e1, e2]
    have e3 : ∀ f : Nat → UInt8, (stB f).extract 0 9 = ⟨#[f 0, f 1, f 2, f 3, f 4, f 5, f 6, f 7, f 8]⟩ := fun f => by
      apply ByteArray.ext
      simp [stB, ByteArray.data_extract]
    rw [e3, e3, key 0 (by omega), key 1 (by omega), key 2 (by omega), key 3 (by omega), key 4 (by omega), key 5 (by omega), key 6 (by omega), key 7 (by omega), key 8 (by omega)]
  · unfold irB sameM
    rw [ho, m1, Bool.true_and, Bool.true_and, Bool.true_and, List.all_eq_true]
    intro p _
    unfold sameAt
    exact decide_eq_true rfl
theorem effM_len (xs : List St) : (effM xs).length ≤ 9 := by
  rcases Bool.eq_false_or_eq_true (effOk xs) with h | h
  · rw [effM_yes h]; exact busyE_le _ 9
  · rw [effM_no h]; exact Nat.zero_le _
theorem ioB_out (xs : List St) (s : ByteArray) (h : (svalid xs && stateV s) = false) : ioB xs s = ⟨#[]⟩ := by unfold ioB; rw [h]; rfl
theorem tcB_size (xs : List St) : (tcB xs).size ≤ 11 := by
  unfold tcB okS
  split
  · exact pickB_size _ _ _
  · exact Nat.zero_le _
end Go.PM
namespace Go.PW
open Go.PM Go.RowKit
/-- the first place of a ring -/
def firstR (nx : Nat → Option Nat) (s : Nat) : Bool := onRb nx s && decide (s ∉ (ringsF nx s).flatten)
theorem ringsF_map (nx : Nat → Option Nat) : ∀ k, ringsF nx k = ((List.range k).filter (firstR nx)).map (way nx) := by
  intro k
  induction k with
  | zero => rfl
  | succ k ih =>
    rw [List.range_succ, List.filter_append, List.map_append, ← ih]
    by_cases hc : onRb nx k = true ∧ k ∉ (ringsF nx k).flatten
    · have hf : firstR nx k = true := by unfold firstR; rw [hc.1, decide_eq_true hc.2]; rfl
      rw [ringsF_yes hc.1 hc.2]; simp [hf]
    · have hf : firstR nx k = false := by
        unfold firstR
        rcases Bool.eq_false_or_eq_true (onRb nx k) with h1 | h1
        · rw [h1, decide_eq_false (fun h2 => hc ⟨h1, h2⟩)]; rfl
        · rw [h1]; rfl
      rw [ringsF_no hc]; simp [hf]
theorem closedB_count {xs : List Mv} (h : MV xs) : (closedB xs).length = ((List.range 9).filter fun s => firstR (nxT (tabOf xs)) s && shut1 (tabOf xs) (way (nxT (tabOf xs)) s)).length := by
  unfold closedB closedT
  rw [if_pos (by simpa [mvalid] using h), List.length_map, ringsF_map, List.filter_map, List.length_map, List.filter_filter]
  congr 1
  refine List.filter_congr fun s _ => ?_
  exact Bool.and_comm _ _
theorem rcount_rdN {xs : List Mv} (h : MV xs) {q : Nat} (hq : q < 9) : rdN (busyF xs 9) (nm q) = rcount (tabOf xs) q := by
  have e1 : rcount (tabOf xs) q = ((List.range 9).filter (rdH (tabOf xs) (sn q))).length := by
    unfold rcount namesW
    simp [ByteArray.size, namesL]
  have e2 : rdN (busyF xs 9) (nm q) = ((List.range 9).filter fun p => busyH xs p && (srcM xs (nm p) == nm q)).length := by
    unfold rdN busyF
    rw [List.map_map, List.count_eq_countP, List.countP_map, List.countP_eq_length_filter, List.filter_filter]
    congr 1
    refine List.filter_congr fun p _ => ?_
    exact Bool.and_comm _ _
  rw [e1, e2]
  congr 1
  refine List.filter_congr fun p hp => ?_
  have hp9 := List.mem_range.1 hp
  have e3 : srcT (tabOf xs) p = srcM xs (nm p) := srcT_M h hp9
  unfold busyH rdH
  rw [e3, sn_nm q hq, Bool.eq_iff_iff, Bool.and_eq_true, Bool.and_eq_true, decide_eq_true_eq, beq_iff_eq, decide_eq_true_eq, decide_eq_true_eq]
  constructor
  · rintro ⟨h1, h2⟩; exact ⟨fun e => h1 (by rw [h2, e]), h2⟩
  · rintro ⟨h1, h2⟩; exact ⟨fun e => h1 (by rw [← e, h2]), h2⟩
theorem busy_next {xs : List Mv} (h : MV xs) {p : Nat} (hp : p < 9) {b : ByteArray} (hb : (nm p, b) ∈ busyF xs 9) : ∃ j, nxT (tabOf xs) p = some j ∧ sn j = b ∧ sidx b = j := by
  obtain ⟨h1, h2⟩ := (busyF_mem h _).1 hb
  have hs : srcM xs (nm p) = b := srcM_of_mem h h1
  have e3 : srcT (tabOf xs) p = srcM xs (nm p) := srcT_M h hp
  have hf := SV_tab h
  have hx := sx_lt hf hp
  rw [e3, hs] at hx
  have hne : sx (tabOf xs) p ≠ p := fun e => by
    rw [e, sn_nm p hp] at hx
    exact h2 hx.2
  exact ⟨_, nxT_some hp hne, hx.2, by rw [← hx.2, sidx_sn hx.1]⟩
theorem next_busy {xs : List Mv} (h : MV xs) {p j : Nat} (hn : nxT (tabOf xs) p = some j) : p < 9 ∧ (nm p, sn j) ∈ busyF xs 9 := by
  have hf := SV_tab h
  have hp : p < 9 := (nice hf).low p j hn
  refine ⟨hp, ?_⟩
  unfold nxT at hn
  rw [if_pos hp] at hn
  by_cases e : sx (tabOf xs) p = p
  · rw [if_pos e] at hn; cases hn
  · rw [if_neg e, Option.some.injEq] at hn
    have hx := sx_lt hf hp
    have e3 : srcT (tabOf xs) p = srcM xs (nm p) := srcT_M h hp
    rw [e3, hn] at hx
    have hj : j ≠ p := fun e2 => e (by rw [hn, e2])
    have hne : srcM xs (nm p) ≠ nm p := by
      rw [← hx.2, ← sn_nm p hp]
      exact fun e2 => hj (sn_inj hx.1 (by omega) e2)
    rw [hx.2]
    exact (busyF_mem h _).2 ⟨mem_of_srcM hne, fun e2 => hne e2.symm⟩
theorem clo_bridge {xs : List Mv} (h : MV xs) {p : Nat} (hp : p < 9) :
    Clo (busyF xs 9) p ↔ (firstR (nxT (tabOf xs)) p && shut1 (tabOf xs) (way (nxT (tabOf xs)) p)) = true := by
  have hf := SV_tab h
  have hn := nice hf
  have hr := way_rho hn (show p < 19 by omega)
  rw [Bool.and_eq_true]
  unfold firstR shut1
  rw [Bool.and_eq_true, decide_eq_true_eq, List.all_eq_true]
  constructor
  · rintro ⟨n, o, h0, o0, on, hk⟩
    have hoP : ∀ k, k < n → isP (o k) = true := fun k hkn => by
      have h1 := ((busyF_mem h _).1 (hk k hkn).1).1
      have := h.1 _ h1
      unfold mok at this; rw [Bool.and_eq_true] at this; exact this.1
    have hstep : ∀ k, k < n → ∃ j, j < n ∧ nxT (tabOf xs) (pidx (o k)) = some (pidx (o j)) ∧ o j = o (k + 1) := fun k hkn => by
      obtain ⟨j, hj, e⟩ := ring_wrap h0 (on.trans o0.symm) hkn
      have hs := pidx_spec (hoP k hkn)
      have hb := (hk k hkn).1
      rw [← hs.2] at hb
      obtain ⟨t, ht1, ht2, ht3⟩ := busy_next h hs.1 hb
      refine ⟨j, hj, ?_, e.symm⟩
      rw [ht1, ← ht3, e, sidx_pidx (hoP j hj)]
    have horb : ∀ k, ∃ j, j < n ∧ orb (nxT (tabOf xs)) p k = some (pidx (o j)) := by
      intro k
      induction k with
      | zero => exact ⟨0, h0, by rw [o0, pidx_nm hp]; rfl⟩
      | succ k ih =>
        obtain ⟨j, hj, e⟩ := ih
        obtain ⟨j', hj', e', _⟩ := hstep j hj
        exact ⟨j', hj', by simp only [orb, e, Option.bind_some]; exact e'⟩
    have horb2 : ∀ k, k < n → orb (nxT (tabOf xs)) p k = some (pidx (o k)) := by
      intro k
      induction k with
      | zero => intro _; rw [o0, pidx_nm hp]; rfl
      | succ k ih =>
        intro hk1
        obtain ⟨j', hj', e', e2⟩ := hstep k (by omega)
        simp only [orb, ih (by omega), Option.bind_some]
        rw [e', e2]
    have hon : OnR (nxT (tabOf xs)) p := by
      refine ⟨n, h0, ?_⟩
      obtain ⟨m, rfl⟩ : ∃ m, n = m + 1 := ⟨n - 1, by omega⟩
      obtain ⟨j', hj', e', e2⟩ := hstep m (by omega)
      simp only [orb, horb2 m (by omega), Option.bind_some]
      rw [e', e2, on, pidx_nm hp]
    have hrb := (onRb_iff hn (show p < 19 by omega)).2 hon
    have hway : ∀ i ∈ way (nxT (tabOf xs)) p, ∃ j, j < n ∧ i = pidx (o j) := fun i hi => by
      obtain ⟨k, hk1⟩ := List.getElem?_of_mem hi
      have hkl := (List.getElem?_eq_some_iff.1 hk1).1
      rw [hr.at_ k hkl] at hk1
      obtain ⟨j, hj, e⟩ := horb k
      rw [hk1] at e
      exact ⟨j, hj, Option.some.inj e⟩
    refine ⟨⟨hrb, fun hm => ?_⟩, fun i hi => ?_⟩
    · obtain ⟨l, hl, hpl⟩ := List.mem_flatten.1 hm
      obtain ⟨s, hs, rfl, hr', _⟩ := ringsF_mem2 p l hl
      obtain ⟨k, hk1⟩ := ring_back hn (show s < 19 by omega) hr' hpl
      obtain ⟨j, hj, e⟩ := horb k
      rw [hk1] at e
      have := (hk j hj).2.2
      have := Option.some.inj e
      omega
    · obtain ⟨j, hj, rfl⟩ := hway i hi
      have hs := pidx_spec (hoP j hj)
      rw [decide_eq_true_eq, ← rcount_rdN h hs.1, hs.2]
      exact (hk j hj).2.1
  · rintro ⟨⟨hrb, hfi⟩, hsh⟩
    have hon := (onRb_iff hn (show p < 19 by omega)).1 hrb
    have hend := hr.onR.1 hon
    have hmin := ring_min hn hp hrb hfi
    refine ⟨(way (nxT (tabOf xs)) p).length, fun k => sn ((orb (nxT (tabOf xs)) p k).getD 0), hr.pos, sn_nm p hp, ?_, fun k hk => ?_⟩
    · show sn ((orb (nxT (tabOf xs)) p (way (nxT (tabOf xs)) p).length).getD 0) = nm p
      rw [hend]; exact sn_nm p hp
    · have hk1 := hr.some_ hk
      have hmem : (way (nxT (tabOf xs)) p)[k] ∈ way (nxT (tabOf xs)) p := List.getElem_mem hk
      generalize (way (nxT (tabOf xs)) p)[k] = i at hk1 hmem
      have hi := ring_low hn (ring_all hn (show p < 19 by omega) hon i hmem)
      have hnx : ∃ j, nxT (tabOf xs) i = some j := by
        have := ring_all hn (show p < 19 by omega) hon i hmem
        obtain ⟨k', hk', e⟩ := this
        obtain ⟨k', rfl⟩ : ∃ m, k' = m + 1 := ⟨k' - 1, by omega⟩
        rw [show k' + 1 = 1 + k' by omega, orb_add] at e
        cases h1 : nxT (tabOf xs) i with
        | none => rw [show orb (nxT (tabOf xs)) i 1 = none by simp only [orb, Option.bind_some]; exact h1] at e; cases e
        | some j => exact ⟨j, rfl⟩
      obtain ⟨j, hj⟩ := hnx
      have hk2 : orb (nxT (tabOf xs)) p (k + 1) = some j := by simp only [orb, hk1, Option.bind_some]; exact hj
      refine ⟨?_, ?_, ?_⟩
      · show (sn ((orb (nxT (tabOf xs)) p k).getD 0), sn ((orb (nxT (tabOf xs)) p (k + 1)).getD 0)) ∈ _
        rw [hk1, hk2]
        show (sn i, sn j) ∈ _
        rw [sn_nm i hi]
        exact (next_busy h hj).2
      · show rdN _ (sn ((orb (nxT (tabOf xs)) p k).getD 0)) = 1
        rw [hk1]
        show rdN _ (sn i) = 1
        rw [sn_nm i hi, rcount_rdN h hi]
        have := hsh i hmem
        simpa using this
      · show p ≤ pidx (sn ((orb (nxT (tabOf xs)) p k).getD 0))
        rw [hk1]
        show p ≤ pidx (sn i)
        rw [sn_nm i hi, pidx_nm hi]
        exact hmin i hmem
theorem clo_closed {xs : List Mv} (h : MV xs) : cloN (busyF xs 9) = (closedB xs).length := by
  rw [closedB_count h]
  unfold cloN
  congr 1
  refine List.filter_congr fun p hp => ?_
  rw [Bool.eq_iff_iff, cloB_iff]
  exact clo_bridge h (List.mem_range.1 hp)
theorem wrB_stp (m : Mv) : wrB (stpM m) = m.1 := wrB_move 0 m.1 m.2 (by decide)
theorem wrL_stL (ms : List Mv) : wrL (stL ms) = ms.flatMap fun m => m.1.data.toList := by
  unfold wrL stL
  rw [List.flatMap_map]
  congr 1
theorem sp_byte {a : ByteArray} (h : isP a = true ∨ a = spT) : (116 ∈ a.data.toList ↔ a = spT) ∧ 117 ∉ a.data.toList := by
  rcases h with h | rfl
  · obtain ⟨p, hp, rfl⟩ := nm_of_isP h
    match p, hp with
    | 0, _ | 1, _ | 2, _ | 3, _ | 4, _ | 5, _ | 6, _ | 7, _ | 8, _ => decide +kernel
  · decide +kernel
theorem tcH_stL {ms : List Mv} (hm : ∀ m ∈ ms, isP m.1 = true ∨ m.1 = spT) : tcH (stL ms) 9 = ms.any (fun m => decide (m.1 = spT)) ∧ tcH (stL ms) 10 = false := by
  unfold tcH inTx
  rw [wrL_stL]
  constructor
  · rw [Bool.eq_iff_iff, decide_eq_true_eq, List.any_eq_true, List.mem_flatMap]
    constructor
    · rintro ⟨m, h1, h2⟩; exact ⟨m, h1, decide_eq_true ((sp_byte (hm m h1)).1.1 h2)⟩
    · rintro ⟨m, h1, h2⟩; exact ⟨m, h1, (sp_byte (hm m h1)).1.2 (of_decide_eq_true h2)⟩
  · rw [decide_eq_false_iff_not, List.mem_flatMap]
    rintro ⟨m, h1, h2⟩
    exact (sp_byte (hm m h1)).2 h2
/-- what FnOrderMoves asks of the answers -/
theorem ord_facts {xs : List Mv} (h : MV xs) : ((ordM xs).length : Int) = cioI xs ∧ cioI xs = ((busyF xs 9).length : Int) + ((closedB xs).length : Int) ∧
    pmH (tcB (stL (ordM xs))) ⟨#[116]⟩ = needB xs ∧ pmH (tcB (stL (ordM xs))) ⟨#[117]⟩ = false := by
  have hm : mvalid xs = true := by simpa [mvalid] using h
  have hw := ordF_count 19 (busyF xs 9) (busyF_Wt h) (busyF_Srt xs) busy_mu
  have hv := ordM_valid h
  have ho := ordF_ok 19 (busyF xs 9) (busyF_Wt h)
  have ht := tcH_stL (ms := ordF 19 (busyF xs 9)) fun m hm => (ho m hm).1
  have e : tcB (stL (ordM xs)) = pickB cellsL (tcH (stL (ordM xs))) 11 := by unfold tcB; rw [hv]; rfl
  refine ⟨?_, ?_, ?_, ?_⟩
  · rw [ordM_yes h, hw.1, clo_closed h]
    unfold cioI; rw [if_pos hm]; omega
  · unfold cioI; rw [if_pos hm]
  · rw [e, ordM_yes h]
    have := pmH_pick (tcH (stL (ordF 19 (busyF xs 9)))) 9 (by omega)
    rw [ht.1, hw.2, clo_closed h] at this
    exact this
  · rw [e, ordM_yes h]
    have := pmH_pick (tcH (stL (ordF 19 (busyF xs 9)))) 10 (by omega)
    rw [ht.2] at this
    exact this
end Go.PW
namespace Go.PD
open Go.PM Go.RowKit Go.Lib
/-- a step whose two names are slots -/
def sl2 (x : St) : Bool := slB x.2.1 && slB x.2.2
def sl2N (x : St) : Nat := if sl2 x then 1 else 0
theorem sl2N_le (x : St) : sl2N x ≤ 2 := by unfold sl2N; split <;> omega
theorem sl2_far {x : St} (h : x.1 = 0) : far x = sl2 x := by
  obtain ⟨k, a, b⟩ := x
  exact far_move k a b (by show ¬ k = 1; have : k = 0 := h; omega)
theorem two_sl {x : St} (h : x.1 = 0) : (two x).length = 1 + sl2N x := by
  unfold sl2N
  rw [← sl2_far h]
  cases hf : far x with
  | false => rw [two_near hf]; rfl
  | true => rw [two_far hf]; rfl
theorem mkD_sl : ∀ (xs : List St), (∀ x ∈ xs, x.1 = 0) → (mkD xs).length = xs.length + trS sl2N xs
  | [], _ => rfl
  | x :: xs, h => by
    have e : mkD (x :: xs) = two x ++ mkD xs := by simp [mkD]
    have e2 : trS sl2N (x :: xs) = sl2N x + trS sl2N xs := by simp [trS]
    rw [e, List.length_append, two_sl (h x (List.mem_cons_self ..)), mkD_sl xs (fun y hy => h y (List.mem_cons_of_mem _ hy)), e2, List.length_cons]
    omega
theorem tq_u : tq 10 = spU := by decide +kernel
theorem two_u {x : St} (h : x.1 = 0) (hu : x.2.1 ≠ spU) : (two x).any (tcX 10) = sl2 x := by
  rw [← sl2_far h]
  obtain ⟨k, a, b⟩ := x
  obtain rfl : k = 0 := h
  cases hf : far (0, a, b) with
  | false =>
    rw [two_near hf]
    show (tcX 10 (0, a, b) || false) = false
    unfold tcX
    rw [tq_u]
    have : a ≠ spU := hu
    simp [this]
  | true =>
    rw [two_far hf]
    show (tcX 10 (0, spU, b) || _) = true
    unfold tcX
    rw [tq_u]; simp
theorem mkD_u : ∀ (xs : List St), (∀ x ∈ xs, x.1 = 0 ∧ x.2.1 ≠ spU) → (mkD xs).any (tcX 10) = decide (0 < trS sl2N xs)
  | [], _ => rfl
  | x :: xs, h => by
    have e : mkD (x :: xs) = two x ++ mkD xs := by simp [mkD]
    have e2 : trS sl2N (x :: xs) = sl2N x + trS sl2N xs := by simp [trS]
    have h1 := h x (List.mem_cons_self ..)
    rw [e, List.any_append, two_u h1.1 h1.2, mkD_u xs (fun y hy => h y (List.mem_cons_of_mem _ hy)), e2]
    have e3 : sl2N x = if sl2 x then 1 else 0 := rfl
    rw [e3]
    cases sl2 x with
    | false => simp
    | true =>
      rw [if_pos rfl, Bool.true_or, eq_comm, decide_eq_true_eq]; omega
theorem stL_kind {ms : List Mv} : ∀ x ∈ stL ms, x.1 = 0 := fun x hx => by
  unfold stL at hx
  obtain ⟨m, _, rfl⟩ := List.mem_map.1 hx
  rfl
def dirF (xs : List Mv) : Nat := trS sl2N (stL (ordM xs))
theorem dir_facts {xs : List Mv} (h : mvalid xs = true) :
    irB (odS xs) xs = true ∧ dirB (odS xs) = true ∧ svalid (odS xs) = true ∧
    (((odS xs).length : Int) = cioI xs + (dirF xs : Int)) ∧ cdI xs = ((odS xs).length : Int) ∧ pmH (tcB (odS xs)) ⟨#[117]⟩ = decide (0 < dirF xs) := by
  have hx : MV xs := by simpa [mvalid] using h
  have hmd := ord_md h
  have hsv := md_sv hmd
  have hk : ∀ x ∈ stL (ordM xs), x.1 = 0 := stL_kind
  rw [odS_yes h]
  refine ⟨?_, md_dir hmd, hsv.2, ?_, by rw [cdI_yes h, odS_yes h], ?_⟩
  · have e := ordM_right hx
    rw [← irB_eq _ xs hsv.1 hx, List.all_eq_true] at e
    rw [← irB_eq _ xs hsv.2 hx, List.all_eq_true]
    intro p hp
    have e1 := e p hp
    by_cases h9 : p < 9
    · rw [if_pos h9] at e1 ⊢
      rw [md_effG hmd p h9]; exact e1
    · rw [if_neg h9] at e1 ⊢; exact e1
  · have h1 := (Go.PW.ord_facts hx).1
    have h2 := mkD_sl _ hk
    have h3 : (stL (ordM xs)).length = (ordM xs).length := by simp [stL]
    unfold dirF
    omega
  · have e : tcB (mkD (stL (ordM xs))) = pickB cellsL (tcH (mkD (stL (ordM xs)))) 11 := by unfold tcB; rw [hsv.2]; rfl
    have h1 := pmH_pick (tcH (mkD (stL (ordM xs)))) 10 (by omega)
    rw [e]
    refine h1.trans ?_
    rw [← tcI_full hsv.2 10]
    unfold tcI
    rw [List.take_length]
    refine mkD_u _ fun x hxm => ⟨hk x hxm, ?_⟩
    have hb := md_bad hmd x hxm
    unfold badX at hb
    rw [Bool.or_eq_false_iff, Bool.or_eq_false_iff, decide_eq_false_iff_not, decide_eq_false_iff_not] at hb
    exact hb.2.1
theorem ordS_len (xs : List Mv) : (stL (ordM xs)).length ≤ 19 := by
  have e : (stL (ordM xs)).length = (ordM xs).length := by simp [stL]
  rw [e]
  by_cases h : MV xs
  · rw [ordM_yes h]; exact ordF_len _ _
  · have h2 : mvalid xs = false := by simpa [mvalid] using h
    have : ordM xs = [] := by unfold ordM; rw [if_neg (by rw [h2]; decide)]
    rw [this]; exact Nat.zero_le _
theorem dirF_step (ss : List St) (k : Nat) (hk : k < ss.length) : trS sl2N (ss.take (k + 1)) = trS sl2N (ss.take k) + (if slB ss[k].2.1 && slB ss[k].2.2 then 1 else 0) := trS_succ sl2N ss k hk
theorem dirF_le (ss : List St) (k : Nat) : trS sl2N (ss.take k) ≤ 2 * k := trS_le sl2N sl2N_le ss k
end Go.PD
namespace Go.Proofs.YtogkodjlbdlgjaaGreat
open Go.RowKit Go.PM
set_option maxRecDepth 100000 in
set_option maxHeartbeats 2000000 in
theorem eq_str (d : Nat) (a b : ByteArray) (W : World) : (Op.equalIn (d + 1) 9 (.string a) (.string b)).run Tryz.prog W = .ok (a == b) W := by
  simp [Op.equalIn, go_sem]
theorem eq_items (f g : Nat → ByteArray) (W : World) : ∀ is : List Nat, (∀ i ∈ is, i < 9) → (Op.eqItems 9999 9 1 (tabA f) (tabA g) is).run Tryz.prog W = .ok (is.all fun p => f p == g p) W := by
  intro is
  induction is with
  | nil => intro _; rfl
  | cons i is ih =>
    intro h
    have hi := h i (List.mem_cons_self ..)
    have h1 : (part 9 (tabA f) (i * 1)).run Tryz.prog W = .ok (.string (f i)) W := run_part_plain (P := Tryz.prog) W (by kernel_rfl) (by rw [Nat.mul_one]; exact tabC_at f i hi)
    have h2 : (part 9 (tabA g) (i * 1)).run Tryz.prog W = .ok (.string (g i)) W := run_part_plain (P := Tryz.prog) W (by kernel_rfl) (by rw [Nat.mul_one]; exact tabC_at g i hi)
    have h3 := eq_str 9998 (f i) (g i) W
    rw [Op.eqItems, Sem.run_bind, h1, Result.andThen_ok, Sem.run_bind, h2, Result.andThen_ok, Sem.run_bind, h3, Result.andThen_ok, List.all_cons]
    cases hb : (f i == g i)
    · rfl
    · rw [if_neg (by decide), ih (fun j hj => h j (List.mem_cons_of_mem _ hj)), Bool.true_and]
theorem eq_tab (f g : Nat → ByteArray) (W : World) : (Op.equal 57 (tabX f) (tabX g)).run Tryz.prog W = .ok ((List.range 9).all fun p => f p == g p) W := by
  have his : (Tryz.prog.info? 9).isSome = true := by kernel_rfl
  obtain ⟨i, hi⟩ := Option.isSome_iff_exists.1 his
  have hc : Tryz.prog.cellsOf 9 = 1 := by kernel_rfl
  have h := run_equalIn_array (P := Tryz.prog) (w := W) 9999 (t := 57) (e := 9) (n := 9) (tabA f) (tabA g) Tryz.underlying57 hi
  rw [hc] at h
  exact h.trans (eq_items f g W _ (fun i hi => by simpa using hi))
theorem beq_ba (a b : ByteArray) : (a == b) = decide (a = b) := by
  cases a with | mk a =>
  cases b with | mk b =>
  have h : ((ByteArray.mk a) == (ByteArray.mk b)) = (a == b) := rfl
  rw [h]
  by_cases e : a = b
  · subst e; simp
  · have : ¬ (ByteArray.mk a) = (ByteArray.mk b) := fun x => e (congrArg ByteArray.data x)
    simp [e]
theorem all_beq (f g : Nat → ByteArray) (l : List Nat) : (l.all fun p => f p == g p) = l.all fun p => decide (f p = g p) := by
  have : (fun p => f p == g p) = fun p => decide (f p = g p) := by funext p; exact beq_ba _ _
  rw [this]
end Go.Proofs.YtogkodjlbdlgjaaGreat
namespace Go.Proofs.YtogkodjlbdlgjaaGreat
open Go.RowKit Go.PM

set_option maxRecDepth 100000 in
set_option maxHeartbeats 1000000 in
/-- two moves as values are compared text by text -/
theorem eq_mv (a b c d : ByteArray) (W : World) : (Op.equalIn 10000 31 (.agg #[.string a, .string b]) (.agg #[.string c, .string d])).run Tryz.prog W = .ok (mvEq a b c d) W := by
  have hs : Tryz.prog.stoodInHeld 31 = false := by kernel_rfl
  have e1 : (a == c) = decide (a = c) := beq_ba _ _
  have e2 : (b == d) = decide (b = d) := beq_ba _ _
  have q1 := eq_str 9998 a c
  have q2 := eq_str 9998 b d
  rw [Op.equalIn]
  generalize hE : Op.equalIn 9999 = E at *
  simp only [mvEq]
  rw [e1] at q1
  rw [e2] at q2
  clear e1 e2 hE
  by_cases h1 : a = c
  · by_cases h2 : b = d
    · subst h1; subst h2
      simp at q1 q2
      simp [go_sem, hs, q1, q2]
    · subst h1
      simp [h2] at q1 q2
      simp [go_sem, hs, q1, q2, h2]
  · simp [h1] at q1
    simp [go_sem, hs, q1, h1]

end Go.Proofs.YtogkodjlbdlgjaaGreat
namespace Go.PM
def stpEq (a b : St) : Bool := decide (a = b)
theorem stpEq_no {a b : St} (h : (!stpEq a b) = true) : a ≠ b := by simpa [stpEq] using h
theorem stpEq_yes {a b : St} (h : (!stpEq a b) = false) : a = b := by simpa [stpEq] using h
end Go.PM
namespace Go.Proofs.YtogkodjlbdlgjaaGreat
open Go.RowKit Go.PM

set_option maxRecDepth 100000 in
set_option maxHeartbeats 1000000 in
theorem eq_mvD (d : Nat) (a b c e : ByteArray) (W : World) : (Op.equalIn (d + 2) 31 (.agg #[.string a, .string b]) (.agg #[.string c, .string e])).run Tryz.prog W = .ok (mvEq a b c e) W := by
  have hs : Tryz.prog.stoodInHeld 31 = false := by kernel_rfl
  have e1 : (a == c) = decide (a = c) := beq_ba _ _
  have e2 : (b == e) = decide (b = e) := beq_ba _ _
  have q1 := eq_str d a c
  have q2 := eq_str d b e
  rw [Op.equalIn]
  generalize hE : Op.equalIn (d + 1) = E at *
  simp only [mvEq]
  rw [e1] at q1
  rw [e2] at q2
  clear e1 e2 hE
  by_cases h1 : a = c
  · by_cases h2 : b = e
    · subst h1; subst h2
      simp at q1 q2
      simp [go_sem, hs, q1, q2]
    · subst h1
      simp [h2] at q1 q2
      simp [go_sem, hs, q1, q2, h2]
  · simp [h1] at q1
    simp [go_sem, hs, q1, h1]
theorem eq_i64 (d : Nat) (a b : Int) (W : World) : (Op.equalIn (d + 1) 3 (.int .i64 a) (.int .i64 b)).run Tryz.prog W = .ok (decide (a = b)) W := by
  have : (a == b) = decide (a = b) := by rw [Bool.eq_iff_iff, beq_iff_eq, decide_eq_true_eq]
  simp [Op.equalIn, go_sem, this]
set_option maxRecDepth 100000 in
set_option maxHeartbeats 1000000 in
/-- two steps as values are compared kind by kind and text by text -/
theorem eq_stp (x y : St) (W : World) : (Op.equalIn 10000 33 (.agg #[.int .i64 x.1, .string x.2.1, .string x.2.2]) (.agg #[.int .i64 y.1, .string y.2.1, .string y.2.2])).run Tryz.prog W = .ok (stpEq x y) W := by
  obtain ⟨k, a, b⟩ := x
  obtain ⟨l, c, e⟩ := y
  have hs : Tryz.prog.stoodInHeld 33 = false := by kernel_rfl
  have q0 := eq_i64 9998 k l
  have q1 := eq_mvD 9997 a b c e
  rw [Op.equalIn]
  generalize hE : Op.equalIn 9999 = E at *
  clear hE
  by_cases h1 : k = l
  · by_cases h2 : a = c ∧ b = e
    · obtain ⟨h2, h3⟩ := h2
      subst h1; subst h2; subst h3
      simp [mvEq] at q0 q1
      simp [go_sem, hs, q0, q1, stpEq]
    · subst h1
      have h3 : mvEq a b c e = false := by unfold mvEq; exact decide_eq_false h2
      have h4 : stpEq (k, a, b) (k, c, e) = false := by
        unfold stpEq
        rw [decide_eq_false_iff_not]
        intro e; cases e; exact h2 ⟨rfl, rfl⟩
      rw [h3] at q1
      simp at q0
      simp [go_sem, hs, q0, q1, h4]
  · have h4 : stpEq (k, a, b) (l, c, e) = false := by
      unfold stpEq
      rw [decide_eq_false_iff_not]
      intro e; cases e; exact h1 rfl
    simp [h1] at q0
    simp [go_sem, hs, q0, h4]

set_option maxRecDepth 100000 in
set_option maxHeartbeats 1600000 in
theorem pmSteps_c (xs ys : List St) (v u : Value) (w : World) (hx : RdS w v xs) (hy : RdS w u ys) :
    Calls Tryz.prog 8 #[v, u] w fun e w' => e = .returned (.bool (decide (xs = ys))) ∧ Below w.heap.size w w' := by
  obtain ⟨A, cap, rfl, hn, hc, hcell⟩ := hx.open
  obtain ⟨A', cap', rfl, hn', hc', hcell'⟩ := hy.open
  clear hx hy
  rcases Nat.lt_or_ge ys.length xs.length with hle | hle
  · have hm : min (xs.length : Int) (ys.length : Int) = ys.length := by omega
    have HLE := Lib.hid hle
    clear hle
    go_enter Tryz.func8, Tryz.ntmps8
    go_wp2
    go_loopw [11] (fun i wr => ∃ (k : Nat), k ≤ ys.length ∧ i = .int .i64 k ∧ Hid (xs.take k = ys.take k) ∧ Below w.heap.size w wr) (fun i _ => ys.length - (intOf i).toNat)
    case atStart => exact ⟨0, by omega, rfl, by show _ = _; simp, Below.refl _ _⟩
    case round =>
      obtain ⟨k, hk, rfl, ht, hb⟩ := hrel
      by_cases hlt : k < ys.length
      · have hlt1 : k < xs.length := by have := HLE.out; omega
        have hlt2 : k < ys.length := by have := HLE.out; omega
        obtain ⟨b, off, rfl, hbl, hc0, hc1, hc2⟩ := hcell k hlt1
        obtain ⟨b', off', rfl, hbl', hc0', hc1', hc2'⟩ := hcell' k hlt2
        have hd0 := (hb.cell (p := ⟨b, off + k * 3, none⟩) hbl).trans hc0
        have hd1 := (hb.cell (p := ⟨b, off + k * 3 + 1, none⟩) hbl).trans hc1
        have hd2 := (hb.cell (p := ⟨b, off + k * 3 + 2, none⟩) hbl).trans hc2
        have hd5 := (hb.cell (p := ⟨b', off' + k * 3, none⟩) hbl').trans hc0'
        have hd3 := (hb.cell (p := ⟨b', off' + k * 3 + 1, none⟩) hbl').trans hc1'
        have hd4 := (hb.cell (p := ⟨b', off' + k * 3 + 2, none⟩) hbl').trans hc2'
        clear hc0 hc1 hc2 hcell hc0' hc1' hc2' hcell'
        have i1 : (k : Int) < (ys.length : Int) := by omega
        go_wp2
        have hx0 : ∀ x : Ext w.heap.size wr, x.val.cell? ⟨b, off + k * 3, none⟩ = some (.int .i64 xs[k].1) := fun x => (x.property.cell (p := ⟨b, _, none⟩) hbl).trans hd0
        have hx1 : ∀ x : Ext w.heap.size wr, x.val.cell? ⟨b, off + k * 3 + 1, none⟩ = some (.string xs[k].2.1) := fun x => (x.property.cell (p := ⟨b, _, none⟩) hbl).trans hd1
        have hx2 : ∀ x : Ext w.heap.size wr, x.val.cell? ⟨b, off + k * 3 + 2, none⟩ = some (.string xs[k].2.2) := fun x => (x.property.cell (p := ⟨b, _, none⟩) hbl).trans hd2
        have hx5 : ∀ x : Ext w.heap.size wr, x.val.cell? ⟨b', off' + k * 3, none⟩ = some (.int .i64 ys[k].1) := fun x => (x.property.cell (p := ⟨b', _, none⟩) hbl').trans hd5
        have hx3 : ∀ x : Ext w.heap.size wr, x.val.cell? ⟨b', off' + k * 3 + 1, none⟩ = some (.string ys[k].2.1) := fun x => (x.property.cell (p := ⟨b', _, none⟩) hbl').trans hd3
        have hx4 : ∀ x : Ext w.heap.size wr, x.val.cell? ⟨b', off' + k * 3 + 2, none⟩ = some (.string ys[k].2.2) := fun x => (x.property.cell (p := ⟨b', _, none⟩) hbl').trans hd4
        clear hd0 hd1 hd2 hd3 hd4 hd5
        have i0 : (0 : Int) ≤ (k : Int) := by omega
        have i2 : (k : Int) < xs.length := by omega
        have i3 : (k : Int) < ys.length := by omega
        have hE := fun W => eq_stp xs[k] ys[k] W
        refine wp_region_ext w.heap.size (by kernel_rfl) (by kernel_rfl) ?_
        repeat (go_big_quiet_step (fail))
        refine wpQuiet_nil ?_
        intro w2 hw'
        obtain ⟨xw, hxw⟩ := hw'
        have hb2 := xw.property
        rw [← hxw] at hb2
        clear hxw xw
        clear hx0 hx1 hx2 hx3 hx4 hx5 hE
        go_wp2
        · have h : (!stpEq xs[k] ys[k]) = true := by assumption
          go_ret
          refine ⟨?_, hb.trans hb2⟩
          have : ¬ xs = ys := by
            intro e; subst e; exact stpEq_no h rfl
          simp [this]
        · have h : (!stpEq xs[k] ys[k]) = false := by assumption
          go_roundw
          case rel =>
            refine ⟨k + 1, by omega, by go_num, ?_, hb.trans hb2⟩
            show _ = _
            rw [take_snoc xs k hlt1, take_snoc ys k hlt2, ht.out, stpEq_yes h]
          case measure => simp [intOf]; omega
      · have hk' : k = ys.length := by omega
        have h2 := ht.out
        have h3 := HLE.out
        rw [hk'] at h2
        have HD : Hid (((xs.length : Int) == (ys.length : Int)) = decide (xs = ys)) := by
          show _ = _
          by_cases he : xs.length = ys.length
          · rw [List.take_of_length_le (by omega), List.take_of_length_le (by omega)] at h2
            rw [h2]; simp
          · have h4 : ¬ xs = ys := fun e => he (by rw [e])
            have h5 : ¬ ((xs.length : Int) = (ys.length : Int)) := by omega
            rw [decide_eq_false h4]
            simpa using h5
        clear h2 h3 ht
        go_wp2
        go_ret
        exact ⟨by rw [← HD.out]; rfl, hb⟩
  · have hm : min (xs.length : Int) (ys.length : Int) = xs.length := by omega
    have HLE := Lib.hid hle
    clear hle
    go_enter Tryz.func8, Tryz.ntmps8
    go_wp2
    go_loopw [11] (fun i wr => ∃ (k : Nat), k ≤ xs.length ∧ i = .int .i64 k ∧ Hid (xs.take k = ys.take k) ∧ Below w.heap.size w wr) (fun i _ => xs.length - (intOf i).toNat)
    case atStart => exact ⟨0, by omega, rfl, by show _ = _; simp, Below.refl _ _⟩
    case round =>
      obtain ⟨k, hk, rfl, ht, hb⟩ := hrel
      by_cases hlt : k < xs.length
      · have hlt1 : k < xs.length := by have := HLE.out; omega
        have hlt2 : k < ys.length := by have := HLE.out; omega
        obtain ⟨b, off, rfl, hbl, hc0, hc1, hc2⟩ := hcell k hlt1
        obtain ⟨b', off', rfl, hbl', hc0', hc1', hc2'⟩ := hcell' k hlt2
        have hd0 := (hb.cell (p := ⟨b, off + k * 3, none⟩) hbl).trans hc0
        have hd1 := (hb.cell (p := ⟨b, off + k * 3 + 1, none⟩) hbl).trans hc1
        have hd2 := (hb.cell (p := ⟨b, off + k * 3 + 2, none⟩) hbl).trans hc2
        have hd5 := (hb.cell (p := ⟨b', off' + k * 3, none⟩) hbl').trans hc0'
        have hd3 := (hb.cell (p := ⟨b', off' + k * 3 + 1, none⟩) hbl').trans hc1'
        have hd4 := (hb.cell (p := ⟨b', off' + k * 3 + 2, none⟩) hbl').trans hc2'
        clear hc0 hc1 hc2 hcell hc0' hc1' hc2' hcell'
        have i1 : (k : Int) < (xs.length : Int) := by omega
        go_wp2
        have hx0 : ∀ x : Ext w.heap.size wr, x.val.cell? ⟨b, off + k * 3, none⟩ = some (.int .i64 xs[k].1) := fun x => (x.property.cell (p := ⟨b, _, none⟩) hbl).trans hd0
        have hx1 : ∀ x : Ext w.heap.size wr, x.val.cell? ⟨b, off + k * 3 + 1, none⟩ = some (.string xs[k].2.1) := fun x => (x.property.cell (p := ⟨b, _, none⟩) hbl).trans hd1
        have hx2 : ∀ x : Ext w.heap.size wr, x.val.cell? ⟨b, off + k * 3 + 2, none⟩ = some (.string xs[k].2.2) := fun x => (x.property.cell (p := ⟨b, _, none⟩) hbl).trans hd2
        have hx5 : ∀ x : Ext w.heap.size wr, x.val.cell? ⟨b', off' + k * 3, none⟩ = some (.int .i64 ys[k].1) := fun x => (x.property.cell (p := ⟨b', _, none⟩) hbl').trans hd5
        have hx3 : ∀ x : Ext w.heap.size wr, x.val.cell? ⟨b', off' + k * 3 + 1, none⟩ = some (.string ys[k].2.1) := fun x => (x.property.cell (p := ⟨b', _, none⟩) hbl').trans hd3
        have hx4 : ∀ x : Ext w.heap.size wr, x.val.cell? ⟨b', off' + k * 3 + 2, none⟩ = some (.string ys[k].2.2) := fun x => (x.property.cell (p := ⟨b', _, none⟩) hbl').trans hd4
        clear hd0 hd1 hd2 hd3 hd4 hd5
        have i0 : (0 : Int) ≤ (k : Int) := by omega
        have i2 : (k : Int) < xs.length := by omega
        have i3 : (k : Int) < ys.length := by omega
        have hE := fun W => eq_stp xs[k] ys[k] W
        refine wp_region_ext w.heap.size (by kernel_rfl) (by kernel_rfl) ?_
        repeat (go_big_quiet_step (fail))
        refine wpQuiet_nil ?_
        intro w2 hw'
        obtain ⟨xw, hxw⟩ := hw'
        have hb2 := xw.property
        rw [← hxw] at hb2
        clear hxw xw
        clear hx0 hx1 hx2 hx3 hx4 hx5 hE
        go_wp2
        · have h : (!stpEq xs[k] ys[k]) = true := by assumption
          go_ret
          refine ⟨?_, hb.trans hb2⟩
          have : ¬ xs = ys := by
            intro e; subst e; exact stpEq_no h rfl
          simp [this]
        · have h : (!stpEq xs[k] ys[k]) = false := by assumption
          go_roundw
          case rel =>
            refine ⟨k + 1, by omega, by go_num, ?_, hb.trans hb2⟩
            show _ = _
            rw [take_snoc xs k hlt1, take_snoc ys k hlt2, ht.out, stpEq_yes h]
          case measure => simp [intOf]; omega
      · have hk' : k = xs.length := by omega
        have h2 := ht.out
        have h3 := HLE.out
        rw [hk'] at h2
        have HD : Hid (((xs.length : Int) == (ys.length : Int)) = decide (xs = ys)) := by
          show _ = _
          by_cases he : xs.length = ys.length
          · rw [List.take_of_length_le (by omega), List.take_of_length_le (by omega)] at h2
            rw [h2]; simp
          · have h4 : ¬ xs = ys := fun e => he (by rw [e])
            have h5 : ¬ ((xs.length : Int) = (ys.length : Int)) := by omega
            rw [decide_eq_false h4]
            simpa using h5
        clear h2 h3 ht
        go_wp2
        go_ret
        exact ⟨by rw [← HD.out]; rfl, hb⟩
end Go.Proofs.YtogkodjlbdlgjaaGreat
namespace Go.Proofs.YtogkodjlbdlgjaaGreat
open Go.RowKit Go.PM Go.PD
attribute [local go_sem] Oper.semAt_some
set_option maxRecDepth 100000 in
set_option maxHeartbeats 12800000 in
theorem exDirect (w : World) (v0 : Value) (n0 : Nat) (hv : RdB w w.heap.size v0 n0) :
    Calls Tryz.prog 3 #[v0] w fun e w' => e = .returned (.bool true) ∧ Below w.heap.size w w' := by
  have hv0 := hv
  obtain ⟨A, cap, rfl, hc, hn, _⟩ := hv
  by_cases hbig : 1048576 < n0
  · have t : decide ((n0 : Int) > 1048576) = true := by simp; omega
    go_enter Tryz.func3, Tryz.ntmps3
    go_wp2
    go_ret
    exact ⟨rfl, Below.refl _ _⟩
  have t : decide ((n0 : Int) > 1048576) = false := by simp; omega
  have HD := Lib.hid (drawOrderDirect_c w _ n0 hv0)
  clear hv0
  go_enter Tryz.func3, Tryz.ntmps3
  go_wp2_with fail
  refine HD.out.mono ?_
  rintro e w1 ⟨u, xs, rfl, ho, ⟨hl, hz⟩, b1⟩
  have R1 : RdM w1 u xs := Rd.of_own ho
  have hz1 : ∀ m ∈ xs, m.1.size ≤ 9223372036854775807 ∧ m.2.size ≤ 9223372036854775807 := fun m hm => by have := hz m hm; omega
  have HIO := Lib.hid (fun W (R : RdM W u xs) => imOrderDirect_c xs u W R)
  have HSO := Lib.hid (fun W (R : RdM W u xs) => spOrderDirect_c xs u W R hz1 (by omega))
  have HIC := Lib.hid (fun W (R : RdM W u xs) => imCountDirect_c xs u W R)
  have HSC := Lib.hid (fun W (R : RdM W u xs) => spCountDirect_c xs u W R hz1 (by omega))
  have HCI := Lib.hid (fun W (R : RdM W u xs) => imCountInOrder_c xs u W R (by omega))
  have HOM := Lib.hid (fun W (R : RdM W u xs) => imOrderMovesL_c xs u W R)
  have HQ : Hid (∀ v u W, RdS W v (odS xs) → RdS W u (odS xs) → Calls Tryz.prog 8 #[v, u] W fun e w' => e = .returned (.bool true) ∧ Below W.heap.size W w') := fun v u W P Q => by
    have := pmSteps_c (odS xs) (odS xs) v u W P Q
    rwa [show decide (odS xs = odS xs) = true by simp] at this
  have HTB := Lib.hid (fun v W (P : RdS W v (odS xs)) => imTouchedBy_c (odS xs) v W P)
  have HIR := Lib.hid (fun v W (P : RdS W v (odS xs)) (R : RdM W u xs) => imIsRight_c (odS xs) xs v u W P R)
  have HID := Lib.hid (fun v W (P : RdS W v (odS xs)) => imIsDirect_c (odS xs) v W P)
  have HPU := Lib.hid (fun W => pmHas_c (tcB (odS xs)) ⟨#[117]⟩ W (by have := tcB_size (odS xs); omega))
  have HPS := Lib.hid (fun s W => isSlot_c s W)
  have HLE := Lib.hid (fun k => dirF_le (stL (ordM xs)) k)
  have HST := Lib.hid (fun k hk => dirF_step (stL (ordM xs)) k hk)
  have HLN : Hid ((odS xs).length ≤ 38) := odS_len xs
  have HYL : Hid ((stL (ordM xs)).length ≤ 19) := ordS_len xs
  have HDF := Lib.hid (fun h => dir_facts (xs := xs) h)
  have HNO := Lib.hid (fun h => cdI_no (xs := xs) h)
  have HFU : Hid (trS sl2N (stL (ordM xs)) = dirF xs) := rfl
  clear HD ho hz hz1 hl
  go_wp2_with fail
  refine (HIO.out _ R1).mono ?_
  rintro e w2 ⟨vd, rfl, od, h2⟩
  have b2 := b1.trans (h2.mono b1.size)
  have R2 := R1.below h2
  have D2 : RdS w2 vd (odS xs) := Rd.of_own od
  clear od h2 b1 R1 HIO
  go_wp2_with fail
  refine (HSO.out _ R2).mono ?_
  rintro e w3 ⟨ve, rfl, oe, h3⟩
  have b3 := b2.trans (h3.mono b2.size)
  have R3 := R2.below h3
  have D3 := D2.below h3
  have E3 : RdS w3 ve (odS xs) := Rd.of_own oe
  clear oe h3 b2 R2 D2 HSO
  go_wp2_with fail
  refine (HIC.out _ R3).mono ?_
  rintro e w4 ⟨rfl, h4⟩
  have b4 := b3.trans (h4.mono b3.size)
  have R4 := R3.below h4
  have D4 := D3.below h4
  have E4 := E3.below h4
  clear h4 b3 R3 D3 E3 HIC
  go_wp2_with fail
  refine (HQ.out _ _ _ D4 E4).mono ?_
  rintro e w5 ⟨rfl, h5⟩
  have b5 := b4.trans (h5.mono b4.size)
  have R5 := R4.below h5
  have D5 := D4.below h5
  have E5 := E4.below h5
  clear h5 b4 R4 D4 E4
  rcases Bool.eq_false_or_eq_true (mvalid xs) with hm | hm
  · obtain ⟨f1, f2, f3, f4, f5, f6⟩ := HDF.out hm
    rw [f1] at HIR
    rw [f2] at HID
    rw [f3] at HTB
    rw [f6] at HPU
    rw [f5] at HSC
    rw [hm] at HOM
    rw [f5, hm]
    have hlen := HLN.out
    obtain ⟨Ad, cd, ed, -⟩ := D5.open
    subst ed
    generalize htc : tcB (odS xs) = tc at *
    clear htc
    have q1 : ((((odS xs).length : Nat) : Int) != (((odS xs).length : Nat) : Int)) = false := by simp
    have q2 : ((((odS xs).length : Nat) : Int) == (((odS xs).length : Nat) : Int)) = true := by simp
    have HQ3 : Hid (((((odS xs).length : Nat) : Int) == cioI xs + (dirF xs : Int)) = true) := by show _ = _; rw [beq_iff_eq]; exact f4
    have HC0 : Hid (0 ≤ cioI xs + (dirF xs : Int) ∧ cioI xs + (dirF xs : Int) ≤ 38) := by show _ ∧ _; omega
    clear f1 f2 f3 f4 f5 f6 HDF HNO hm HQ E5
    generalize (odS xs).length = N at *
    go_wp2_with fail
    refine (HSC.out _ R5).mono ?_
    rintro e w6 ⟨rfl, h6⟩
    have b6 := b5.trans (h6.mono b5.size)
    have R6 := R5.below h6
    have D6 := D5.below h6
    clear h6 b5 R5 D5 HSC
    go_wp2_with fail
    refine (HOM.out _ R6).mono ?_
    rintro e w7 ⟨vp, rfl, op, h7⟩
    have b7 := b6.trans (h7.mono b6.size)
    have R7 := R6.below h7
    have D7 := D6.below h7
    have P7 : RdS w7 vp (stL (ordM xs)) := Rd.of_own op
    clear op h7 b6 R6 D6 HOM
    obtain ⟨A3, cap3, rfl, hn3, hc3, hcell⟩ := P7.open
    clear P7
    generalize stL (ordM xs) = ys at *
    have hbs7 := b7.size
    have hyl := HYL.out
    go_wp2
    go_loopw [9, 13, 77] (fun o _ i wr => ∃ (k : Nat), k ≤ ys.length ∧ i = .int .i64 k ∧ o = .int .i64 (trS sl2N (ys.take k) : Nat) ∧ Below w7.heap.size w7 wr) (fun _ _ i _ => ys.length - (RowKit.intOf i).toNat)
    case atStart => exact ⟨0, by omega, rfl, by simp [trS], Below.refl _ _⟩
    case round =>
      obtain ⟨k, hk, rfl, rfl, hb⟩ := hrel
      have hbs := hb.size
      have hlk := HLE.out k
      by_cases hlt : k < ys.length
      · obtain ⟨b, off, rfl, hbl, hc1, hc2, hc3⟩ := hcell k hlt
        have hd1 := (hb.cell (p := ⟨b, off + k * 3, none⟩) hbl).trans hc1
        have hd2 := (hb.cell (p := ⟨b, off + k * 3 + 1, none⟩) hbl).trans hc2
        have hd3 := (hb.cell (p := ⟨b, off + k * 3 + 2, none⟩) hbl).trans hc3
        have hnx := HST.out k hlt
        clear hc1 hc2 hc3 hcell HST HLE
        generalize ys[k].1 = x1 at *
        generalize ys[k].2.1 = x2 at *
        generalize ys[k].2.2 = x3 at *
        have HP1 := Lib.hid (fun W => HPS.out x2 W)
        have HP2 := Lib.hid (fun W => HPS.out x3 W)
        generalize slB x2 = s2 at *
        generalize slB x3 = s3 at *
        have b8 := b7.trans (hb.mono hbs7)
        cases s2
        · have HNZ : Hid (Value.int .i64 (trS sl2N (ys.take k) : Int) = Value.int .i64 ((trS sl2N (ys.take (k + 1)) : Nat) : Int)) := by show _ = _; rw [hnx]; simp
          clear hnx
          generalize trS sl2N (ys.take k) = acc at *
          go_wp2_with fail
          refine (HP1.out _).mono ?_
          rintro e wq ⟨rfl, rfl⟩
          go_wp2
          go_roundw
          case rel => exact ⟨k + 1, by omega, by go_num, HNZ.out, by (repeat' (first | (with_reducible exact Below.refl _ _) | (with_reducible assumption) | (with_reducible refine Below.alloc ?_ ?_ _) | (with_reducible refine Below.drew ?_) | (with_reducible refine Below.setCell ?_ ?_ _) | (with_reducible exact Nat.le_refl _) | omega | ((repeat (first | rewrite [World.size_alloc] | rewrite [World.size_setCell] | rewrite [World.size_drew])); omega) | (simp; omega) | (simp; done)))⟩
          case measure => simp [RowKit.intOf]; omega
        · cases s3
          · have HNZ : Hid (Value.int .i64 (trS sl2N (ys.take k) : Int) = Value.int .i64 ((trS sl2N (ys.take (k + 1)) : Nat) : Int)) := by show _ = _; rw [hnx]; simp
            clear hnx
            generalize trS sl2N (ys.take k) = acc at *
            go_wp2_with fail
            refine (HP1.out _).mono ?_
            rintro e wq ⟨rfl, rfl⟩
            go_wp2_with fail
            refine (HP2.out _).mono ?_
            rintro e wq ⟨rfl, rfl⟩
            go_wp2
            go_roundw
            case rel => exact ⟨k + 1, by omega, by go_num, HNZ.out, by (repeat' (first | (with_reducible exact Below.refl _ _) | (with_reducible assumption) | (with_reducible refine Below.alloc ?_ ?_ _) | (with_reducible refine Below.drew ?_) | (with_reducible refine Below.setCell ?_ ?_ _) | (with_reducible exact Nat.le_refl _) | omega | ((repeat (first | rewrite [World.size_alloc] | rewrite [World.size_setCell] | rewrite [World.size_drew])); omega) | (simp; omega) | (simp; done)))⟩
            case measure => simp [RowKit.intOf]; omega
          · have HNZ : Hid (Value.int .i64 ((trS sl2N (ys.take k) : Int) + 1) = Value.int .i64 ((trS sl2N (ys.take (k + 1)) : Nat) : Int)) := by show _ = _; rw [hnx]; simp
            clear hnx
            generalize trS sl2N (ys.take k) = acc at *
            go_wp2_with fail
            refine (HP1.out _).mono ?_
            rintro e wq ⟨rfl, rfl⟩
            go_wp2_with fail
            refine (HP2.out _).mono ?_
            rintro e wq ⟨rfl, rfl⟩
            go_wp2
            go_roundw
            case rel => exact ⟨k + 1, by omega, by go_num, HNZ.out, by (repeat' (first | (with_reducible exact Below.refl _ _) | (with_reducible assumption) | (with_reducible refine Below.alloc ?_ ?_ _) | (with_reducible refine Below.drew ?_) | (with_reducible refine Below.setCell ?_ ?_ _) | (with_reducible exact Nat.le_refl _) | omega | ((repeat (first | rewrite [World.size_alloc] | rewrite [World.size_setCell] | rewrite [World.size_drew])); omega) | (simp; omega) | (simp; done)))⟩
            case measure => simp [RowKit.intOf]; omega
      · have HX : ys.take k = ys := List.take_of_length_le (by omega)
        rw [HX, HFU.out] at hlk ⊢
        have b8 := b7.trans (hb.mono hbs7)
        have R8 := R7.below hb
        have D8 := D7.below hb
        clear hcell HST HLE HX hb b7 R7 D7 hbs7 HFU
        have q3 := HQ3.out
        have hc0 := HC0.out
        have q4 : decide ((dirF xs : Int) > 0) = decide (0 < dirF xs) := by rw [decide_eq_decide]; omega
        obtain ⟨dz, hdz⟩ : ∃ b : Bool, decide (0 < dirF xs) = b := ⟨_, rfl⟩
        rw [hdz] at q4 HPU
        have q5 : (dz == dz) = true := by simp
        generalize dirF xs = F at *
        generalize cioI xs = c at *
        clear HQ3 HC0
        go_wp2_with fail
        refine (HTB.out _ _ D8).mono ?_
        rintro e w9 ⟨rfl, h9⟩
        have b9 := b8.trans (h9.mono b8.size)
        have R9 := R8.below h9
        have D9 := D8.below h9
        clear h9 b8 R8 D8 HTB
        go_wp2_with fail
        refine (HIR.out _ _ D9 R9).mono ?_
        rintro e w10 ⟨rfl, h10⟩
        have b10 := b9.trans (h10.mono b9.size)
        have R10 := R9.below h10
        have D10 := D9.below h10
        clear h10 b9 R9 D9 HIR
        go_wp2_with fail
        refine (HID.out _ _ D10).mono ?_
        rintro e w11 ⟨rfl, h11⟩
        have b11 := b10.trans (h11.mono b10.size)
        have R11 := R10.below h11
        clear h11 b10 R10 D10 HID
        go_wp2_with fail
        refine (HCI.out _ R11).mono ?_
        rintro e w12 ⟨rfl, h12⟩
        have b12 := b11.trans (h12.mono b11.size)
        clear h12 b11 R11 HCI
        go_wp2_with fail
        refine (HPU.out _).mono ?_
        rintro e w13 ⟨rfl, h13⟩
        have b13 := b12.trans (h13.mono b12.size)
        clear h13 b12 HPU
        go_wp2
        go_ret
        exact ⟨rfl, b13⟩
  · have f1 := HNO.out hm
    rw [f1] at HSC
    rw [f1, hm]
    clear f1 HDF HNO HTB HIR HID HPU HPS HLE HST HLN HFU HCI HOM hm
    go_wp2_with fail
    refine (HSC.out _ R5).mono ?_
    rintro e w6 ⟨rfl, h6⟩
    have b6 := b5.trans (h6.mono b5.size)
    have R6 := R5.below h6
    have D6 := D5.below h6
    have E6 := E5.below h6
    clear h6 b5 R5 D5 E5
    go_wp2_with fail
    refine (HQ.out _ _ _ D6 E6).mono ?_
    rintro e w7 ⟨rfl, h7⟩
    have b7 := b6.trans (h7.mono b6.size)
    have R7 := R6.below h7
    clear h7 b6 R6 D6 E6 HQ
    go_wp2_with fail
    refine (HSC.out _ R7).mono ?_
    rintro e w8 ⟨rfl, h8⟩
    have b8 := b7.trans (h8.mono b7.size)
    clear h8 b7 R7 HSC
    go_wp2
    go_ret
    exact ⟨rfl, b8⟩

namespace fnDirect
open Go.RowKit Go.PM Go.ChangeShapes Go.WideShapes Go.ChangeAt
open Go.ChangeMaps (open_string shut_string)
set_option maxRecDepth 100000 in
theorem lifted (os : Os) (started : os.Started) (H : Type) (enc : TypeId × Value → H) :
    ReturnsInHanded {} Tryz.checked os 3 .any (Rows.fnDirectSpec.pre6 enc Tryz.prog Tryz.f3 Rows.fnDirectRow.domain false) (Rows.fnDirectSpec.post enc Tryz.prog Tryz.f3 false true false false) := by
  refine returnsInHanded_of_change (C := Tryz.checked) own started (by kernel_rfl) Tryz.func3
    (ChangeSpec.witness6 (enc := enc) (C := Tryz.checked) false ⟨#[], #[.slice none 0 0], []⟩ 8 (by kernel_rfl) (by kernel_rfl) (by kernel_rfl) (by kernel_rfl)) ?_
  intro W base args ds gs before hval0 hW hcnd _
  have hval : ∀ (j : Nat) t v, Tryz.f3.params[j]? = some t → args[j]? = some v → Value.okWide Tryz.prog W .any base t v := hval0
  have hW' := hW
  obtain ⟨p, q, hA0, hV, rfl, hfz, hnd⟩ := hW
  have hA : DataW.TrodAll enc Tryz.prog W 0 (fun _ => true) true Tryz.f3.params.toList args.toList ds p := hA0
  rw [Tryz.params3] at hA hval
  obtain ⟨v0, vs0, d0, ds0, p0, q0, hargs, rfl, rfl, h0, r0⟩ := trodAll_cons hA
  obtain ⟨rfl, rfl, rfl⟩ := trodAll_nil r0
  obtain rfl : args = #[v0] := by cases args; simp_all
  obtain ⟨rfl, rfl⟩ := trodVars_none hV
  have k0 := h0
  have lt0 : ∀ x ∈ p0, x.block < W.heap.size := by obtain ⟨m, hm⟩ := k0; exact DataW.trod_lt m _ _ _ hm
  obtain ⟨a0, len0, cap0, rfl⟩ := okWide_slice Tryz.underlying22 (hval 0 22 v0 rfl rfl)
  have hx0 : RdB W W.heap.size (.slice a0 len0 cap0) len0 := by obtain ⟨fuel, hf⟩ := h0; exact open_bytes hf
  clear hA0 hval0
  refine (exDirect W _ len0 hx0).mono fun e W' ⟨he, bel⟩ => ?_
  subst he
  exact ⟨_, rfl, _, _, _, [], _, [], hW', trodAll_mk1 (shut_bool Tryz.underlying4 _), (trodAll_cons_mk (Below.trod laidOut (by kernel_rfl) (of_decide_eq_true (by kernel_rfl)) k0 bel lt0) trodAll_mk0), rfl, bel.frame _, fun h => by cases h⟩

theorem over : Rows.fnDirectRow.holds Tryz.pinned (OpenSpec.ofChange Rows.fnDirectSpec) :=
  OpenClaim.holds_of_wide 3 Tryz.f3 rfl rfl rfl rfl rfl rfl rfl ⟨rfl, rfl, rfl, rfl, rfl⟩ rfl rfl rfl rfl rfl (by kernel_rfl) Tryz.func3 (by kernel_rfl)
    (of_decide_eq_true (by kernel_rfl)) (by unfold Func.isWrapper; first | (rw [if_pos (by decide +kernel)]; kernel_rfl) | (rw [if_neg (by decide +kernel)]; exact ⟨rfl, rfl⟩))
    (fun os started H enc _ => lifted os started H enc)

/-- The statement. -/
theorem proved : Rows.FnDirectSaid := over
end fnDirect
end Go.Proofs.YtogkodjlbdlgjaaGreat
