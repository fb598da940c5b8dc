import Derived.Test.YthgcoocgeekdnaaGreatDoorJzB
import Derived.Test.YthgcoocgeekdnaaGreatDoorJzC
import Derived.Test.YthgcoocgeekdnaaGreatDoorAhd
import Derived.Laws.CopyOwn
import Derived.Outline
import Derived.Laws.EntriesVeiled
import Derived.Test.YthgcoocgeekdnaaGreatDoorNames
import Derived.Test.YthgcoocgeekdnaaGreatDoorSpS2
import Derived.Test.YthgcoocgeekdnaaGreatDoorNamesIn
import Derived.Test.YthgcoocgeekdnaaGreatDoorSource
import Derived.BigQuiet
import Derived.Test.YthgcoocgeekdnaaGreatDoorApp
import Derived.Test.YthgcoocgeekdnaaGreatDoorHold
import Derived.ChangeKeysEq
import Derived.Test.YthgcoocgeekdnaaGreatDoorRange
import Derived.Test.YthgcoocgeekdnaaGreatDoorList
import Derived.Test.YthgcoocgeekdnaaGreatDoorP2
namespace Go.PF
open Go.PM Go.PD Go.RowKit Go.Lib
theorem mv_sz {xs : List Mv} (h : MV xs) : ∀ m ∈ xs, m.1.size ≤ 9223372036854775807 ∧ m.2.size ≤ 9223372036854775807 := fun m hm => by
  have := h.1 m hm
  unfold mok at this
  rw [Bool.and_eq_true] at this
  rw [isP_size this.1, isS_size this.2]
  decide
def sdOk (ps az : ByteArray) : Bool := clOk ps.data.toList az.data.toList && decide (ps = az)
def ag0 (ps : List UInt8) (xs : List Mv) (k : Nat) : Prop := ∀ j (_ : j < k) (hj : j < xs.length), (decide (xs[j].1 = xs[j].2) || inPs ps xs[j]) = true
theorem arB_one {ps : List UInt8} (hp : parOk ps = true) {xs : List Mv} (h : MV xs) : ∀ c ∈ ps, (srcM xs (ch c)).size = 1 := fun c hc => src_one h (par_place hp c hc)
end Go.PF
namespace Go.Proofs.YthgcoocgeekdnaaGreatDoor
open Go.RowKit Go.PM Go.PD Go.PF Go.Lib
attribute [local go_sem] Oper.semAt_some
def coI (ps az : List UInt8) : Int := if clOk ps az then cioI (clM ps az) else -1

end Go.Proofs.YthgcoocgeekdnaaGreatDoor
namespace Go.Proofs.YthgcoocgeekdnaaGreatDoor
open Go.RowKit Go.PM Go.PD Go.PF Go.Lib
attribute [local go_sem] Oper.semAt_some
theorem clL_MV (ps az : List UInt8) : MV (clL ps az) := by
  unfold clL
  split
  · next h => exact cl_MV h
  · exact MV_nil
theorem ca_one {ps : List UInt8} (hp : parOk ps = true) {f : Nat → ByteArray} (hf : SVal (srcT f)) : ∀ c ∈ ps, (behF f (ch c)).size = 1 := fun c hc => by
  unfold behF
  rw [if_pos (par_place hp c hc)]
  exact isS_size (hf _ (ch_nm (par_place hp c hc)).1)

set_option maxHeartbeats 800000 in
theorem imCallCost_c (ps az : ByteArray) (hp : ps.size ≤ 1048576) (ha : az.size ≤ 1048576) (w : World) (hT : U8w w) :
    Calls Tryz.prog 59 #[.string ps, .string az] w fun e w' => e = .returned (.int .i64 (coI ps.data.toList az.data.toList)) ∧ Below w.heap.size w w' := by
  have HV := Lib.hid (imMovesFor_c ps az hp ha w hT)
  rcases Bool.eq_false_or_eq_true (clOk ps.data.toList az.data.toList) with h1 | h1
  · have HC := Lib.hid (fun v W hx => imCountInOrder_c (clM ps.data.toList az.data.toList) v W hx (by have := MV_len (cl_MV h1); omega))
    have HO : Hid (coI ps.data.toList az.data.toList = cioI (clM ps.data.toList az.data.toList)) := if_pos h1
    rw [clL_yes h1, h1] at HV
    clear h1
    generalize coI ps.data.toList az.data.toList = co at *
    generalize clM ps.data.toList az.data.toList = xs at *
    go_enter Tryz.func59, Tryz.ntmps59
    go_wp2_with fail
    refine HV.out.mono ?_
    rintro e w1 ⟨v', rfl, ho, hb1⟩
    have hs1 := hb1.size
    have hR : RdM w1 v' xs := Rd.of_own ho
    go_wp2_with fail
    refine (HC.out _ _ hR).mono ?_
    rintro e w3 ⟨rfl, hb3⟩
    go_wp2
    go_ret
    exact ⟨by rw [HO.out]; rfl, hb1.trans (hb3.mono hs1)⟩
  · have HO : Hid (coI ps.data.toList az.data.toList = -1) := by show _ = _; unfold coI; rw [h1]; rfl
    rw [h1] at HV
    clear h1
    generalize coI ps.data.toList az.data.toList = co at *
    go_enter Tryz.func59, Tryz.ntmps59
    go_wp2_with fail
    refine HV.out.mono ?_
    rintro e w1 ⟨v', rfl, ho, hb1⟩
    go_wp2
    go_ret
    exact ⟨by rw [HO.out]; rfl, hb1⟩
end Go.Proofs.YthgcoocgeekdnaaGreatDoor
namespace Go.PM
open Go.RowKit
/-- place p is the first one of a ring of moves that are read once each -/
def Clo (ws : List Mv) (p : Nat) : Prop := ∃ (n : Nat) (o : Nat → ByteArray), 0 < n ∧ o 0 = nm p ∧ o n = nm p ∧ ∀ k, k < n → (o k, o (k + 1)) ∈ ws ∧ rdN ws (o k) = 1 ∧ p ≤ pidx (o k)
theorem ring_wrap {o : Nat → ByteArray} {n k : Nat} (_h0 : 0 < n) (e : o n = o 0) (hk : k < n) : ∃ j, j < n ∧ o (k + 1) = o j := by
  by_cases h : k + 1 < n
  · exact ⟨k + 1, h, rfl⟩
  · exact ⟨0, by omega, by rw [show k + 1 = n by omega, e]⟩
theorem ring_prev {o : Nat → ByteArray} {n k : Nat} (h0 : 0 < n) (e : o n = o 0) (hk : k < n) : ∃ j, j < n ∧ o (j + 1) = o k := by
  by_cases h : k = 0
  · exact ⟨n - 1, by omega, by rw [show n - 1 + 1 = n by omega, e, h]⟩
  · exact ⟨k - 1, by omega, by rw [show k - 1 + 1 = k by omega]⟩
theorem one_reader {ws : List Mv} {a : ByteArray} (h : rdN ws a = 1) {x y : Mv} (hx : x ∈ ws) (hy : y ∈ ws) (ex : x.2 = a) (ey : y.2 = a) : x = y := by
  obtain ⟨i, hi, rfl⟩ := List.getElem_of_mem hx
  have h1 := rdN_erase ws i hi a
  rw [if_pos ex, h] at h1
  have h2 := rdN_zero.1 (show rdN (ws.eraseIdx i) a = 0 by omega)
  rcases erase_or hi hy with e | e
  · exact e.symm
  · exact absurd ey (h2 y e)
theorem redM_rdN {ws : List Mv} {m : Mv} (hne : m.1 ≠ m.2) {a : ByteArray} (h1 : a ≠ m.1) (h2 : a ≠ m.2) : rdN (redM m ws) a = rdN ws a := by
  unfold redM; split
  · rfl
  · exact (instM_rdN m.2 m.1 hne ws).2.2 a h2 h1
/-- a ring of moves that are read once each is what it was when one is done that can be done ahead of all others -/
theorem Clo.some_ {ws : List Mv} (hw : Wt ws) {i : Nat} (hi : i < ws.length) (hf : rdN ws ws[i].1 = 0) (p : Nat) : Clo (redM ws[i] (ws.eraseIdx i)) p ↔ Clo ws p := by
  have hm := List.getElem_mem hi
  have hne := hw.ne _ hm
  have hk1 := erase_key hw.keys hi
  constructor
  · rintro ⟨n, o, hn, e0, en, h⟩
    have een : o n = o 0 := en.trans e0.symm
    have hkey : ∀ k, k < n → (∃ x ∈ ws.eraseIdx i, x.1 = o k) := fun k hk => by
      have h1 := List.mem_map_of_mem (f := (·.1)) (h k hk).1
      rw [redM_keys] at h1
      obtain ⟨x, hx, e⟩ := List.mem_map.1 h1
      exact ⟨x, hx, e⟩
    have hnk : ∀ k, k < n → o k ≠ ws[i].1 := fun k hk e => by
      obtain ⟨x, hx, ex⟩ := hkey k hk
      exact hk1 x hx (ex.trans e)
    have hnm : ∀ k, k < n → o k ≠ ws[i].2 := fun k hk e => by
      obtain ⟨x, hx, ex⟩ := hkey k hk
      have hp := hw.to_ x (erase_mem hx)
      rw [ex, e] at hp
      have hr := (h k hk).2.1
      unfold redM at hr
      rw [if_neg (by rw [(isP_cases hp).1]; decide), e, (instM_rdN ws[i].2 ws[i].1 hne _).1] at hr
      cases hr
    refine ⟨n, o, hn, e0, en, fun k hk => ⟨?_, ?_, (h k hk).2.2⟩⟩
    · have hmem := (h k hk).1
      obtain ⟨j, hj, ej⟩ := ring_wrap hn een hk
      unfold redM at hmem
      split at hmem
      · exact erase_mem hmem
      · obtain ⟨x, hx, e1, (⟨e2, e3⟩ | ⟨e2, e3⟩)⟩ := instM_mem hmem
        · exact absurd (ej ▸ e3) (hnk j hj)
        · rw [e3]; exact erase_mem hx
    · have hr := (h k hk).2.1
      rw [redM_rdN hne (hnk k hk) (hnm k hk)] at hr
      rw [rdN_erase ws i hi, hr, if_neg (fun e => hnm k hk e.symm)]
  · rintro ⟨n, o, hn, e0, en, h⟩
    have een : o n = o 0 := en.trans e0.symm
    have hnk : ∀ k, k < n → o k ≠ ws[i].1 := fun k hk e => by
      have := (h k hk).2.1
      rw [e, hf] at this; cases this
    have hnm : ∀ k, k < n → o k ≠ ws[i].2 := fun k hk e => by
      obtain ⟨j, hj, ej⟩ := ring_prev hn een hk
      have := one_reader (h k hk).2.1 (h j hj).1 hm ej e.symm
      exact hnk j hj (by rw [← this])
    refine ⟨n, o, hn, e0, en, fun k hk => ⟨?_, ?_, (h k hk).2.2⟩⟩
    · have hmem : (o k, o (k + 1)) ∈ ws.eraseIdx i := by
        rcases erase_or hi (h k hk).1 with e | e
        · exact absurd (by rw [← e]) (hnk k hk)
        · exact e
      obtain ⟨j, hj, ej⟩ := ring_wrap hn een hk
      unfold redM
      split
      · exact hmem
      · unfold instM
        refine List.mem_map.2 ⟨_, hmem, ?_⟩
        rw [if_neg]
        show ¬ o (k + 1) = _
        rw [ej]; exact hnm j hj
    · rw [redM_rdN hne (hnk k hk) (hnm k hk)]
      have := rdN_erase ws i hi (o k)
      rw [if_neg (fun e => hnm k hk e.symm), (h k hk).2.1] at this
      omega
/-- the moves stand in the order of their places -/
def Srt (ws : List Mv) : Prop := ws.Pairwise fun a b => pidx a.1 < pidx b.1
theorem Srt.of_keys {ws vs : List Mv} (h : Srt ws) (e : vs.map (·.1) = ws.map (·.1)) : Srt vs := by
  have h1 : (ws.map (·.1)).Pairwise fun a b => pidx a < pidx b := List.pairwise_map.2 h
  rw [← e] at h1
  exact (List.pairwise_map (f := fun m : Mv => m.1) (R := fun a b => pidx a < pidx b)).1 h1
theorem Srt.erase {ws : List Mv} (h : Srt ws) (i : Nat) : Srt (ws.eraseIdx i) := List.Pairwise.sublist (List.eraseIdx_sublist ws i) h
theorem Srt.first {ws : List Mv} (h : Srt ws) (h0 : 0 < ws.length) : ∀ m ∈ ws, pidx ws[0].1 ≤ pidx m.1 := by
  cases ws with
  | nil => simp at h0
  | cons x xs =>
    intro m hm
    rw [List.mem_cons] at hm
    rcases hm with rfl | hm
    · exact Nat.le_refl _
    · exact Nat.le_of_lt ((List.pairwise_cons.1 h).1 m hm)
theorem pidx_inj {a b : ByteArray} (ha : isP a = true) (hb : isP b = true) (e : pidx a = pidx b) : a = b := by
  rw [← (pidx_spec ha).2, e, (pidx_spec hb).2]
theorem Clo.none_other {ws : List Mv} (hw : Wt ws) (hs : Srt ws) (h0 : 0 < ws.length) (hn : aheadI ws = none) {p : Nat} (hp : nm p ≠ ws[0].1) (hp9 : p < 9) : Clo (redM (spT, ws[0].1) ws) p ↔ Clo ws p := by
  obtain ⟨f1, f2, f3⟩ := hw.full hn
  have hm := List.getElem_mem h0
  have hc := isP_cases (hw.to_ _ hm)
  have hne : (spT : ByteArray) ≠ ws[0].1 := fun e => hc.2 e.symm
  have hr : redM (spT, ws[0].1) ws = instM ws[0].1 spT ws := by
    unfold redM; rw [if_neg (by show ¬ isD ws[0].1 = true; rw [hc.1]; decide)]
  rw [hr]
  obtain ⟨r1, _, r3⟩ := instM_rdN ws[0].1 spT hne ws
  constructor
  · rintro ⟨n, o, hn', e0, en, h⟩
    have een : o n = o 0 := en.trans e0.symm
    have hkey : ∀ k, k < n → (∃ x ∈ ws, x.1 = o k) := fun k hk => by
      have h1 := List.mem_map_of_mem (f := (·.1)) (h k hk).1
      rw [instM_keys] at h1
      obtain ⟨x, hx, e⟩ := List.mem_map.1 h1
      exact ⟨x, hx, e⟩
    have hnt : ∀ k, k < n → o k ≠ spT := fun k hk e => by
      obtain ⟨x, hx, ex⟩ := hkey k hk
      exact (isP_cases (hw.to_ x hx)).2 (ex.trans e)
    have hnm : ∀ k, k < n → o k ≠ ws[0].1 := fun k hk e => by
      have := (h k hk).2.1
      rw [e, r1] at this; cases this
    refine ⟨n, o, hn', e0, en, fun k hk => ⟨?_, ?_, (h k hk).2.2⟩⟩
    · obtain ⟨j, hj, ej⟩ := ring_wrap hn' een hk
      obtain ⟨x, hx, e1, (⟨e2, e3⟩ | ⟨e2, e3⟩)⟩ := instM_mem (h k hk).1
      · exact absurd (ej ▸ e3) (hnt j hj)
      · rw [e3]; exact hx
    · have := (h k hk).2.1
      rwa [r3 _ (hnm k hk) (hnt k hk)] at this
  · rintro ⟨n, o, hn', e0, en, h⟩
    have een : o n = o 0 := en.trans e0.symm
    have hnm : ∀ k, k < n → o k ≠ ws[0].1 := fun k hk e => by
      have h1 := (h k hk).2.2
      have h2 := hs.first h0 _ (h 0 hn').1
      simp only [e0, pidx_nm hp9] at h2
      rw [e] at h1
      exact hp (pidx_inj (isP_nm hp9) (hw.to_ _ hm) (by rw [pidx_nm hp9]; omega))
    have hnt : ∀ k, k < n → o k ≠ spT := fun k hk e => by
      exact (isP_cases (hw.to_ _ (h k hk).1)).2 e
    refine ⟨n, o, hn', e0, en, fun k hk => ⟨?_, ?_, (h k hk).2.2⟩⟩
    · obtain ⟨j, hj, ej⟩ := ring_wrap hn' een hk
      unfold instM
      refine List.mem_map.2 ⟨_, (h k hk).1, ?_⟩
      rw [if_neg]
      show ¬ o (k + 1) = _
      rw [ej]; exact hnm j hj
    · rw [r3 _ (hnm k hk) (hnt k hk)]; exact (h k hk).2.1
theorem pigeon : ∀ (n : Nat) (f : Nat → Nat), (∀ k, k ≤ n → f k < n) → ∃ i j, i < j ∧ j ≤ n ∧ f i = f j := by
  intro n f h
  refine Classical.byContradiction fun hno => ?_
  have hnd : ((List.range (n + 1)).map f).Nodup := by
    rw [List.nodup_iff_pairwise_ne, List.pairwise_map]
    refine List.Pairwise.imp_of_mem ?_ (List.pairwise_lt_range (n := n + 1))
    intro a b _ hb hab e
    exact hno ⟨a, b, hab, by have := List.mem_range.1 hb; omega, e⟩
  have := nodup_le ((List.range (n + 1)).map f) (List.range n) hnd (fun a ha => by
    obtain ⟨k, hk, rfl⟩ := List.mem_map.1 ha
    exact List.mem_range.2 (h k (by have := List.mem_range.1 hk; omega)))
  simp at this
  omega
theorem Clo.none_self {ws : List Mv} (hw : Wt ws) (hs : Srt ws) (h0 : 0 < ws.length) (hn : aheadI ws = none) : Clo ws (pidx ws[0].1) ∧ ¬ Clo (redM (spT, ws[0].1) ws) (pidx ws[0].1) := by
  obtain ⟨f1, f2, f3⟩ := hw.full hn
  have hm := List.getElem_mem h0
  have hP := hw.to_ _ hm
  have hc := isP_cases hP
  have hne : (spT : ByteArray) ≠ ws[0].1 := fun e => hc.2 e.symm
  have hnm := (pidx_spec hP).2
  constructor
  · -- go round
    let nx : ByteArray → ByteArray := fun a => srcM ws a
    have hMV : MV ws := ⟨fun m hm => by
      unfold mok isS
      rw [hw.to_ m hm, Bool.true_and, Bool.or_eq_true]
      rcases hw.from_ m hm with h | h | h
      · exact .inl h
      · exact .inr h
      · exact absurd h (rdN_zero.1 f3 m hm), hw.keys⟩
    have hnx : ∀ m ∈ ws, nx m.1 = m.2 := fun m hm => srcM_of_mem hMV hm
    obtain ⟨o, ho0, hos⟩ : ∃ o : Nat → ByteArray, o 0 = ws[0].1 ∧ ∀ k, o (k + 1) = nx (o k) := ⟨fun k => Nat.rec ws[0].1 (fun _ a => nx a) k, rfl, fun _ => rfl⟩
    have hin : ∀ k, (o k, o (k + 1)) ∈ ws := by
      intro k
      induction k with
      | zero =>
        rw [hos, ho0, hnx _ hm]; exact hm
      | succ k ih =>
        obtain ⟨x, hx, ex⟩ := f2 _ ih
        have e1 : x.1 = o (k + 1) := ex
        rw [hos (k + 1), ← e1, hnx x hx]; exact hx
    have hisP : ∀ k, isP (o k) = true := fun k => hw.to_ _ (hin k)
    obtain ⟨i, j, hij, hj, e⟩ := pigeon 9 (fun k => pidx (o k)) (fun k _ => (pidx_spec (hisP k)).1)
    have e' : o i = o j := pidx_inj (hisP i) (hisP j) e
    have back : ∀ d, d ≤ i → o (i - d) = o (j - d) := by
      intro d
      induction d with
      | zero => intro _; exact e'
      | succ d ih =>
        intro hd
        have h1 := ih (by omega)
        have a1 := hin (i - (d + 1))
        have a2 := hin (j - (d + 1))
        have a3 := hin (i - d)
        rw [show i - (d + 1) + 1 = i - d by omega] at a1
        rw [show j - (d + 1) + 1 = j - d by omega, ← h1] at a2
        have := one_reader (f1 _ a3) a1 a2 rfl rfl
        exact congrArg (·.1) this
    have e0 := back i (Nat.le_refl _)
    rw [Nat.sub_self] at e0
    refine ⟨j - i, o, by omega, ho0.trans hnm.symm, by rw [← e0, ho0, hnm], fun k hk => ⟨hin k, f1 _ (hin k), hs.first h0 _ (hin k)⟩⟩
  · rintro ⟨n, o, hn', e0, en, h⟩
    have hr : redM (spT, ws[0].1) ws = instM ws[0].1 spT ws := by
      unfold redM; rw [if_neg (by show ¬ isD ws[0].1 = true; rw [hc.1]; decide)]
    have := (h 0 hn').2.1
    rw [e0, hnm, hr, (instM_rdN ws[0].1 spT hne ws).1] at this
    cases this
noncomputable def cloB (ws : List Mv) (p : Nat) : Bool := @decide (Clo ws p) (Classical.propDecidable _)
theorem cloB_iff {ws : List Mv} {p : Nat} : cloB ws p = true ↔ Clo ws p := @decide_eq_true_iff _ (Classical.propDecidable _)
theorem cloB_no {ws : List Mv} {p : Nat} : cloB ws p = false ↔ ¬ Clo ws p := @decide_eq_false_iff_not _ (Classical.propDecidable _)
theorem cloB_eq {ws vs : List Mv} {p : Nat} (h : Clo ws p ↔ Clo vs p) : cloB ws p = cloB vs p := by
  rw [Bool.eq_iff_iff, cloB_iff, cloB_iff]; exact h
noncomputable def cloN (ws : List Mv) : Nat := ((List.range 9).filter (cloB ws)).length
theorem cloN_congr {ws vs : List Mv} (h : ∀ p, p < 9 → (Clo ws p ↔ Clo vs p)) : cloN ws = cloN vs := by
  unfold cloN
  congr 1
  exact List.filter_congr fun p hp => cloB_eq (h p (List.mem_range.1 hp))
theorem filter_less {α : Type _} [DecidableEq α] (P Q : α → Bool) (a : α) : ∀ l : List α, l.Nodup → a ∈ l → P a = true → Q a = false → (∀ b ∈ l, b ≠ a → Q b = P b) → (l.filter P).length = (l.filter Q).length + 1
  | [], _, h, _, _, _ => by cases h
  | x :: l, hn, ha, hP, hQ, hb => by
    rw [List.nodup_cons] at hn
    by_cases e : x = a
    · subst e
      have e2 : l.filter P = l.filter Q := List.filter_congr fun b hbm => ((hb b (by simp [hbm])) fun e => hn.1 (e ▸ hbm)).symm
      simp [hP, hQ, e2]
    · have ha' : a ∈ l := by
        rw [List.mem_cons] at ha
        exact ha.resolve_left fun e' => e e'.symm
      have ih := filter_less P Q a l hn.2 ha' hP hQ fun b hbm => hb b (by simp [hbm])
      have hx := hb x (by simp) e
      rw [List.filter_cons, List.filter_cons, hx]
      split
      · simp only [List.length_cons]; omega
      · exact ih
/-- an order takes a step for each move and one for each closed ring -/
theorem ordF_count : ∀ (n : Nat) (ws : List Mv), Wt ws → Srt ws → muW ws ≤ n → (ordF n ws).length = ws.length + cloN ws ∧ ((ordF n ws).any (fun m => decide (m.1 = spT)) = decide (0 < cloN ws)) := by
  have hz : cloN [] = 0 := by
    unfold cloN
    rw [List.length_eq_zero_iff, List.filter_eq_nil_iff]
    intro p _ h
    obtain ⟨n, o, hn, _, _, h⟩ := cloB_iff.1 h
    cases (h 0 hn).1
  intro n
  induction n with
  | zero =>
    intro ws _ _ hmu
    have : ws = [] := List.length_eq_zero_iff.1 (by unfold muW at hmu; omega)
    subst this
    rw [hz]; exact ⟨rfl, rfl⟩
  | succ n ih =>
    intro ws hw hs hmu
    by_cases h0 : 0 < ws.length
    · cases ha : aheadI ws with
      | some i =>
        obtain ⟨hi, hf⟩ := aheadI_some ha
        have e := cloN_congr fun p _ => Clo.some_ hw hi hf p
        obtain ⟨i1, i2⟩ := ih _ (hw.some_ hi hf) ((hs.erase i).of_keys (redM_keys _ _)) (by have := muW_some hi ws[i]; omega)
        rw [e, redM_len, List.length_eraseIdx_of_lt hi] at i1
        rw [e] at i2
        rw [ordF_some hi ha, List.length_cons, List.any_cons, i2, i1]
        refine ⟨by omega, ?_⟩
        have : ¬ ws[i].1 = spT := (isP_cases (hw.to_ _ (List.getElem_mem hi))).2
        simp [this]
      | none =>
        have hself := Clo.none_self hw hs h0 ha
        have hP := hw.to_ _ (List.getElem_mem h0)
        have hp := pidx_spec hP
        have e : cloN ws = cloN (redM (spT, ws[0].1) ws) + 1 := by
          unfold cloN
          refine filter_less _ _ (pidx ws[0].1) _ List.nodup_range (List.mem_range.2 hp.1) (cloB_iff.2 hself.1) (cloB_no.2 hself.2) fun b hb hne => ?_
          have hb9 := List.mem_range.1 hb
          refine cloB_eq (Clo.none_other hw hs h0 ha (fun e => hne ?_) hb9)
          rw [← e, pidx_nm hb9]
        obtain ⟨i1, _⟩ := ih _ (hw.none_ h0 ha).1 (hs.of_keys (redM_keys _ _)) (by have := muW_none hw h0 ha; omega)
        rw [redM_len] at i1
        rw [ordF_none h0 ha, List.length_cons, List.any_cons, i1]
        refine ⟨by omega, ?_⟩
        have : 0 < cloN ws := by omega
        simp [this]
    · have : ws = [] := List.length_eq_zero_iff.1 (by omega)
      subst this
      rw [ordF_nil, hz]; exact ⟨rfl, rfl⟩
theorem busyF_Srt (xs : List Mv) : Srt (busyF xs 9) := by
  unfold Srt busyF
  rw [List.pairwise_map]
  refine List.Pairwise.imp_of_mem ?_ ((List.pairwise_lt_range (n := 9)).filter (busyH xs))
  intro a b ha hb hab
  have h1 := List.mem_range.1 (List.mem_filter.1 ha).1
  have h2 := List.mem_range.1 (List.mem_filter.1 hb).1
  show pidx (nm a) < pidx (nm b)
  rw [pidx_nm h1, pidx_nm h2]; exact hab
end Go.PM
namespace Go.PM
open Go.RowKit
section
variable {P : Program} {ops : Array Oper} {rest : List Oper} {o : Oper} {a : Act} {w : World} {Q : Exit → Act → World → Prop}
def bytesC (s : ByteArray) : Array Value := s.data.map fun b => .int .u8 b.toNat
theorem bytesC_size (s : ByteArray) : (bytesC s).size = s.size := by simp [bytesC]
/-- a string is copied over a whole row -/
theorem run_copy_text (dT sT ty elem : TypeId) (hu : P.underlying dT = some (.slice elem)) (hsz : (P.info? elem).map (·.size) = some 1) (b : Nat) (t : TypeId) (cur : Array Value) (hA : At w b t cur) (cap : Nat) (s : ByteArray) (hcur : cur.size = s.size) :
    (Builtin.copy_ #[dT, sT] ty #[.slice (some ⟨b, 0, none⟩) s.size cap, .string s]).run P w = .ok (goInt s.size) (w.setRow b (bytesC s)) := by
  have h1 : ∀ v ∈ (bytesC s).toList, v.oneCell' = true := by
    intro v hv
    simp [bytesC] at hv
    obtain ⟨x, _, rfl⟩ := hv
    rfl
  have hst := run_storeCells_at P b 0 t (bytesC s).toList 0 cur w hA (by simp [bytesC_size, hcur]) h1
  have e : (cur.toList.take (0 + 0) ++ (bytesC s).toList ++ cur.toList.drop (0 + 0 + (bytesC s).toList.length)).toArray = bytesC s := by
    have : cur.toList.drop (0 + 0 + (bytesC s).toList.length) = [] := by
      rw [List.drop_eq_nil_iff]; simp [bytesC_size, hcur]
    rw [this]; simp
  cases hq : P.info? elem with
  | none => simp [hq] at hsz
  | some i =>
    have hi : i.size = 1 := by simpa [hq] using hsz
    rw [e] at hst
    have hx : List.take s.size (List.map (fun b : UInt8 => Value.int .u8 (b.toNat : Int)) s.data.toList) = (bytesC s).toList := by
      rw [List.take_of_length_le (by simp)]
      simp [bytesC]
    unfold Builtin.copy_
    simp [run_underlying hu w, Builtin.lenOf, Builtin.firstCells, sizeOf, typeInfo, hq]
    rw [hx, hst]
    rfl
theorem cp_text (hgd : o.guard = none) (d s : Operand) (dT sT : TypeId) (ho : o.op = .call { callee := .builtin .copy, args := #[d, s], argTypes := #[dT, sT] }) (elem : TypeId) (hu : P.underlying dT = some (.slice elem)) (hsz : (P.info? elem).map (·.size) = some 1)
    (b : Nat) (t : TypeId) (cur : Array Value) (hA : At w b t cur) (cap : Nat) (x : ByteArray) (hd : a.eval d = .slice (some ⟨b, 0, none⟩) x.size cap) (hs : a.eval s = .string x) (hcur : cur.size = x.size)
    (h : ∀ w', At w' b t (bytesC x) → w.grownBy w' (some b) → wpList P ops Q rest (a.put o.dst (goInt x.size)) w') : wpList P ops Q (o :: rest) a w := by
  refine wpList_plain hgd fun K hK => ?_
  have hrun := run_copy_text (P := P) dT sT o.type elem hu hsz b t cur hA cap x hcur
  unfold Oper.wp
  simp [execOp, ho, resolve, invoke, builtin, hd, hs, hrun, Result.andThen]
  exact hK _ _ (h _ (At.setRow hA _) (grown_setRow _ _ _))
end
end Go.PM
namespace Go.PM
open Go.RowKit
def nmS : Nat → UInt8 := fun q => cellsL.getD q 0
theorem bytes_nmS : bytesC cellsB = stC nmS := by simp [bytesC, cellsB, stC, nmS, cellsL]
def wspS (f g : Nat → UInt8) : Nat → UInt8 := fun q => if q < 9 then f q else g q
end Go.PM
namespace Go.Proofs.YthgcoocgeekdnaaGreatDoor
open Go.RowKit Go.PM

end Go.Proofs.YthgcoocgeekdnaaGreatDoor
namespace Go.Proofs.YthgcoocgeekdnaaGreatDoor
open Go.RowKit Go.PM

end Go.Proofs.YthgcoocgeekdnaaGreatDoor
namespace Go.PM
open Go.RowKit
def aoP (t : Nat → ByteArray) (f : Nat → UInt8) (n : Nat) : Nat → UInt8 := fun q => if q < n then rdS f (srcT t q) else f q
theorem aoP_zero (t : Nat → ByteArray) (f : Nat → UInt8) : aoP t f 0 = f := by funext q; simp [aoP]
theorem aoP_nine (t : Nat → ByteArray) (f : Nat → UInt8) : aoP t f 9 = aoS t f := rfl
theorem aoP_succ (t : Nat → ByteArray) (f : Nat → UInt8) (p : Nat) : updS (aoP t f p) p (rdS f (srcT t p)) = aoP t f (p + 1) := by
  funext q
  unfold updS aoP
  by_cases h : q = p
  · subst h; simp
  · by_cases h2 : q < p
    · simp [h, h2, Nat.lt_succ_of_lt h2]
    · have : ¬ q < p + 1 := by omega
      simp [h, h2, this]
end Go.PM
namespace Go.Proofs.YthgcoocgeekdnaaGreatDoor
open Go.RowKit Go.PM
attribute [local go_sem] Oper.semAt_some

end Go.Proofs.YthgcoocgeekdnaaGreatDoor
namespace Go.PM
open Go.RowKit
theorem src_okC {xs : List Mv} (h : MV xs) : ∀ p, p < 9 → okC (srcT (tabOf xs) p) = true := by
  intro p hp
  rw [srcM_nm h hp]
  unfold srcM
  cases hf : xs.find? (fun m => decide (m.1 = nm p)) with
  | none =>
    show okC (nm p) = true
    unfold okC; rw [(cidx_nm hp).1]; rfl
  | some m =>
    have hm := List.mem_of_find?_eq_some hf
    have h1 := h.1 m hm
    unfold mok at h1; rw [Bool.and_eq_true] at h1
    exact isS_okC h1.2
def aoB (xs : List Mv) (s : ByteArray) : ByteArray := okS (mvalid xs && stateV s) (stB (aoS (tabOf xs) (ofB s)))
def ioB (xs : List St) (s : ByteArray) : ByteArray := okS (svalid xs && stateV s) (stB (runS xs xs.length (ofB s)))
theorem okS_yes (s : ByteArray) : okS true s = s := rfl
theorem okS_no (s : ByteArray) : okS false s = ⟨#[]⟩ := rfl
end Go.PM
namespace Go.Proofs.YthgcoocgeekdnaaGreatDoor
open Go.RowKit Go.PM

end Go.Proofs.YthgcoocgeekdnaaGreatDoor
namespace Go.Proofs.YthgcoocgeekdnaaGreatDoor
open Go.RowKit Go.PM

end Go.Proofs.YthgcoocgeekdnaaGreatDoor
namespace Go.PM
def sameAt (xs ys : List Mv) (p : Nat) : Bool := decide (srcM xs (nm p) = srcM ys (nm p))
def sameM (xs ys : List Mv) : Bool := mvalid xs && mvalid ys && (List.range 9).all (sameAt xs ys)
theorem sameM_no {xs ys : List Mv} (k : Nat) (hk : k < 9) (h : sameAt xs ys k = false) : sameM xs ys = false := by
  have : (List.range 9).all (sameAt xs ys) = false := by
    rw [List.all_eq_false]
    exact ⟨k, by simpa using hk, by rw [h]; decide⟩
  rw [sameM, this, Bool.and_false]
theorem sameM_all {xs ys : List Mv} (h : ∀ p, p < 9 → sameAt xs ys p = true) : sameM xs ys = (mvalid xs && mvalid ys) := by
  have : (List.range 9).all (sameAt xs ys) = true := by
    rw [List.all_eq_true]
    intro p hp
    exact h p (by simpa using hp)
  rw [sameM, this, Bool.and_true]
end Go.PM
namespace Go.Proofs.YthgcoocgeekdnaaGreatDoor
open Go.RowKit Go.PM

end Go.Proofs.YthgcoocgeekdnaaGreatDoor
namespace Go.PM
open Go.RowKit
/-- the moves that give each place its value in a state -/
def effA (g : Nat → UInt8) (p : Nat) : Mv := (nm p, ⟨#[g p]⟩)
def effL (g : Nat → UInt8) (k : Nat) : List Mv := (List.range k).map (effA g)
theorem effL_succ (g : Nat → UInt8) (k : Nat) : effL g (k + 1) = effL g k ++ [effA g k] := by simp [effL, List.range_succ]
theorem effL_len (g : Nat → UInt8) (k : Nat) : (effL g k).length = k := by simp [effL]
theorem effL_at (g : Nat → UInt8) (n k : Nat) (h : k < (effL g n).length) : (effL g n)[k] = effA g k := by simp [effL]
theorem effL_take (g : Nat → UInt8) (n k : Nat) (h : k ≤ n) : (effL g n).take k = effL g k := by
  simp only [effL, ← List.map_take, List.take_range]
  rw [Nat.min_eq_left h]
theorem nms_nodup : ((List.range 9).map nm).Nodup := by decide +kernel
theorem effL_MV (g : Nat → UInt8) : MV (effL g 9) ↔ ∀ p, p < 9 → isS ⟨#[g p]⟩ = true := by
  constructor
  · intro h p hp
    have := h.1 (effA g p) (List.mem_map.2 ⟨p, by simpa using hp, rfl⟩)
    unfold mok at this; rw [Bool.and_eq_true] at this
    exact this.2
  · intro h
    refine ⟨fun m hm => ?_, ?_⟩
    · obtain ⟨p, hp, rfl⟩ := List.mem_map.1 hm
      have hp9 : p < 9 := by simpa using hp
      unfold mok effA
      rw [isP_nm hp9, h p hp9]; rfl
    · have : (effL g 9).map (·.1) = (List.range 9).map nm := by simp [effL, effA]
      rw [this]; exact nms_nodup
def effG (xs : List St) : Nat → UInt8 := runS xs xs.length nmS'
where nmS' : Nat → UInt8 := fun q => cellsL.getD q 0
def effOk (xs : List St) : Bool := svalid xs && mvalid (effL (effG xs) 9)
def effM (xs : List St) : List Mv := if effOk xs then busyM (effL (effG xs) 9) else []
theorem effM_yes {xs : List St} (h : effOk xs = true) : effM xs = busyM (effL (effG xs) 9) := if_pos h
theorem effM_no {xs : List St} (h : effOk xs = false) : effM xs = [] := if_neg (by rw [h]; decide)
theorem effOk_no {xs : List St} (p : Nat) (hp : p < 9) (h : isS ⟨#[effG xs p]⟩ = false) : effOk xs = false := by
  have : mvalid (effL (effG xs) 9) = false := by
    simp only [mvalid, decide_eq_false_iff_not, effL_MV]
    intro h2
    rw [h2 p hp] at h; cases h
  rw [effOk, this, Bool.and_false]
theorem effOk_yes {xs : List St} (hv : svalid xs = true) (h : ∀ p, p < 9 → isS ⟨#[effG xs p]⟩ = true) : effOk xs = true := by
  have : mvalid (effL (effG xs) 9) = true := by
    simp only [mvalid, decide_eq_true_eq, effL_MV]; exact h
  rw [effOk, this, hv]; rfl
theorem busyE_zero (g : Nat → UInt8) : busyM (effL g 0) = [] := rfl
theorem busyE_succ (g : Nat → UInt8) (k : Nat) : busyM (effL g (k + 1)) = if (⟨#[g k]⟩ : ByteArray) = nm k then busyM (effL g k) else busyM (effL g k) ++ [effA g k] := by
  unfold busyM
  rw [effL_succ, List.filter_append]
  by_cases h : (⟨#[g k]⟩ : ByteArray) = nm k
  · simp [effA, h]
  · have : ¬ nm k = (⟨#[g k]⟩ : ByteArray) := fun e => h e.symm
    simp [effA, h, this]
theorem busyE_le (g : Nat → UInt8) (k : Nat) : (busyM (effL g k)).length ≤ k := by
  have := busyM_le (effL g k)
  rw [effL_len] at this; exact this
theorem stB_names : stB (fun q => cellsL.getD q 0) = cellsB := rfl
end Go.PM
namespace Go.Proofs.YthgcoocgeekdnaaGreatDoor
open Go.RowKit Go.PM

end Go.Proofs.YthgcoocgeekdnaaGreatDoor
namespace Go.PM
open Go.RowKit
theorem srcM_nil (a : ByteArray) : srcM [] a = a := rfl
theorem srcM_cons (m : Mv) (xs : List Mv) (a : ByteArray) : srcM (m :: xs) a = if m.1 = a then m.2 else srcM xs a := by
  unfold srcM
  rw [List.find?_cons]
  by_cases h : m.1 = a <;> simp [h]
theorem srcM_none {xs : List Mv} {a : ByteArray} (h : a ∉ xs.map (·.1)) : srcM xs a = a := by
  unfold srcM
  have : xs.find? (fun m => decide (m.1 = a)) = none := by
    rw [List.find?_eq_none]
    intro m hm e
    exact h (List.mem_map.2 ⟨m, hm, by simpa using e⟩)
  rw [this]; rfl
theorem srcM_busy : ∀ (xs : List Mv) (a : ByteArray), (xs.map (·.1)).Nodup → srcM (busyM xs) a = srcM xs a
  | [], _, _ => rfl
  | m :: xs, a, h => by
    rw [List.map_cons, List.nodup_cons] at h
    have ih := srcM_busy xs a h.2
    by_cases he : m.1 = m.2
    · have e : busyM (m :: xs) = busyM xs := by simp [busyM, he]
      rw [e, ih, srcM_cons]
      by_cases hm : m.1 = a
      · rw [if_pos hm, ← he, hm]
        exact srcM_none (by rw [← hm]; exact h.1)
      · rw [if_neg hm]
    · have e : busyM (m :: xs) = m :: busyM xs := by simp [busyM, he]
      rw [e, srcM_cons, srcM_cons, ih]
theorem busyM_MV {xs : List Mv} (h : MV xs) : MV (busyM xs) :=
  ⟨fun m hm => h.1 m (List.mem_filter.1 hm).1, h.2.sublist (List.Sublist.map _ (List.filter_sublist ..))⟩
theorem find_nm : ∀ p, p < 9 → (List.range 9).find? (fun q => decide (nm q = nm p)) = some p := by
  intro p hp
  match p, hp with
  | 0, _ | 1, _ | 2, _ | 3, _ | 4, _ | 5, _ | 6, _ | 7, _ | 8, _ => decide +kernel
theorem srcM_effL (g : Nat → UInt8) (p : Nat) (hp : p < 9) : srcM (effL g 9) (nm p) = ⟨#[g p]⟩ := by
  unfold srcM effL
  rw [List.find?_map]
  have e : ((fun m : Mv => decide (m.1 = nm p)) ∘ effA g) = fun q => decide (nm q = nm p) := rfl
  rw [e, find_nm p hp]; rfl
def nmT : Nat → UInt8 := fun q => cellsL.getD q 0
theorem rd_name {a : ByteArray} (h : isS a = true) : (⟨#[rdS nmT a]⟩ : ByteArray) = a := by
  rcases Bool.eq_false_or_eq_true (isC a) with hc | hc
  · rw [rdS_cell hc]
    obtain ⟨c, rfl⟩ := one_of_size (isC_size hc)
    have h2 : c ∈ cellsL := by simpa [isC] using hc
    show (⟨#[cellsL.getD (cidx ⟨#[c]⟩) 0]⟩ : ByteArray) = _
    rw [(cidx_one h2).2.2]
  · rw [rdS_digit hc]; exact (fc_one (isS_size h)).symm
theorem srcM_isSr {xs : List Mv} (h : MV xs) (p : Nat) (hp : p < 9) : isS (srcM xs (nm p)) = true := by
  unfold srcM
  cases hf : xs.find? (fun m => decide (m.1 = nm p)) with
  | none => show isS (nm p) = true; unfold isS; rw [isP_nm hp]; rfl
  | some m =>
    have h1 := h.1 m (List.mem_of_find?_eq_some hf)
    unfold mok at h1; rw [Bool.and_eq_true] at h1
    exact h1.2
def irB (xs : List St) (ys : List Mv) : Bool := effOk xs && sameM (effM xs) ys
theorem one_inj {a b : UInt8} : (⟨#[a]⟩ : ByteArray) = ⟨#[b]⟩ ↔ a = b := by
  constructor
  · intro h
    have := congrArg (fun s : ByteArray => s.data.toList) h
    simpa using this
  · intro h; rw [h]
theorem irB_eq (xs : List St) (ys : List Mv) (h1 : svalid xs = true) (h2 : MV ys) :
    ((List.range 11).all fun p => decide ((if p < 9 then effG xs p else nmT p) = aoS (tabOf ys) nmT p)) = irB xs ys := by
  have m2 : mvalid ys = true := by simpa [mvalid] using h2
  have key : ∀ p, p < 9 → (effG xs p = aoS (tabOf ys) nmT p ↔ (⟨#[effG xs p]⟩ : ByteArray) = srcM ys (nm p)) := fun p hp => by
    unfold aoS
    rw [if_pos hp, srcM_nm h2 hp, ← one_inj, rd_name (srcM_isSr h2 p hp)]
  have e11 : ∀ P : Nat → Prop, (∀ p, p < 11 → P p) ↔ ((∀ p, p < 9 → P p) ∧ P 9 ∧ P 10) := fun P => by
    constructor
    · intro h; exact ⟨fun p hp => h p (by omega), h 9 (by omega), h 10 (by omega)⟩
    · rintro ⟨h, h9, h10⟩ p hp
      by_cases hp9 : p < 9
      · exact h p hp9
      · have : p = 9 ∨ p = 10 := by omega
        rcases this with rfl | rfl
        · exact h9
        · exact h10
  rw [Bool.eq_iff_iff, List.all_eq_true]
  have hl : (∀ p ∈ List.range 11, decide ((if p < 9 then effG xs p else nmT p) = aoS (tabOf ys) nmT p) = true) ↔ ∀ p, p < 9 → (⟨#[effG xs p]⟩ : ByteArray) = srcM ys (nm p) := by
    have : (∀ p ∈ List.range 11, decide ((if p < 9 then effG xs p else nmT p) = aoS (tabOf ys) nmT p) = true) ↔ ∀ p, p < 11 → (if p < 9 then effG xs p else nmT p) = aoS (tabOf ys) nmT p := by
      constructor
      · intro h p hp; simpa using h p (by simpa using hp)
      · intro h p hp; simpa using h p (by simpa using hp)
    rw [this, e11]
    constructor
    · rintro ⟨h, _, _⟩ p hp
      have := h p hp
      rw [if_pos hp] at this
      exact (key p hp).1 this
    · intro h
      refine ⟨fun p hp => ?_, ?_, ?_⟩
      · rw [if_pos hp]; exact (key p hp).2 (h p hp)
      · simp [aoS]
      · simp [aoS]
  rw [hl]
  unfold irB
  rcases Bool.eq_false_or_eq_true (effOk xs) with ho | ho
  · have hmv : MV (effL (effG xs) 9) := by
      unfold effOk at ho; rw [Bool.and_eq_true] at ho
      simpa [mvalid] using ho.2
    have m1 : mvalid (effM xs) = true := by rw [effM_yes ho]; simpa [mvalid] using busyM_MV hmv
    rw [ho, Bool.true_and, sameM, m1, m2, Bool.true_and, Bool.true_and, List.all_eq_true]
    have hk : ∀ p, p < 9 → srcM (effM xs) (nm p) = ⟨#[effG xs p]⟩ := fun p hp => by
      rw [effM_yes ho, srcM_busy _ _ hmv.2, srcM_effL _ p hp]
    constructor
    · intro h p hp
      have hp9 : p < 9 := by simpa using hp
      rw [sameAt, hk p hp9]; simpa using h p hp9
    · intro h p hp
      have := h p (by simpa using hp)
      rw [sameAt, hk p hp] at this; simpa using this
  · rw [ho, Bool.false_and]
    constructor
    · intro h
      have hmv : MV (effL (effG xs) 9) := (effL_MV _).2 fun p hp => by rw [h p hp]; exact srcM_isSr h2 p hp
      have : effOk xs = true := by rw [effOk, h1]; simpa [mvalid] using hmv
      rw [this] at ho; cases ho
    · intro h; cases h
end Go.PM
namespace Go.Proofs.YthgcoocgeekdnaaGreatDoor
open Go.RowKit Go.PM
attribute [local go_sem] Oper.semAt_some

theorem busyE_sizes (xs : List St) : (∀ m ∈ effM xs, m.1.size ≤ 9223372036854775807 ∧ m.2.size ≤ 9223372036854775807) ∧ (effM xs).length ≤ 9 := by
  rcases Bool.eq_false_or_eq_true (effOk xs) with h | h
  · rw [effM_yes h]
    refine ⟨fun m hm => ?_, busyE_le _ 9⟩
    have h2 := (List.mem_filter.1 hm).1
    obtain ⟨p, _, rfl⟩ := List.mem_map.1 h2
    exact ⟨by show (1 : Nat) ≤ _; omega, by show (1 : Nat) ≤ _; omega⟩
  · rw [effM_no h]
    exact ⟨by simp, by simp⟩

theorem eq_u8 (d : Nat) (a b : UInt8) (W : World) : (Op.equalIn (d + 1) 5 (.int .u8 a.toNat) (.int .u8 b.toNat)).run Tryz.prog W = .ok (decide (a = b)) W := by
  have : (((a.toNat : Int) == (b.toNat : Int))) = decide (a = b) := by
    rw [Bool.eq_iff_iff, beq_iff_eq, decide_eq_true_eq, ← UInt8.toNat_inj]; omega
  simp [Op.equalIn, go_sem, this]
theorem eqS_items (f g : Nat → UInt8) (W : World) : ∀ is : List Nat, (∀ i ∈ is, i < 11) → (Op.eqItems 9999 5 1 (stC f) (stC g) is).run Tryz.prog W = .ok (is.all fun p => decide (f p = g p)) W := by
  intro is
  induction is with
  | nil => intro _; rfl
  | cons i is ih =>
    intro h
    have hi := h i (List.mem_cons_self ..)
    have h1 : (part 5 (stC f) (i * 1)).run Tryz.prog W = .ok (.int .u8 (f i).toNat) W := run_part_plain (P := Tryz.prog) W (by kernel_rfl) (by rw [Nat.mul_one]; exact stC_at f i hi)
    have h2 : (part 5 (stC g) (i * 1)).run Tryz.prog W = .ok (.int .u8 (g i).toNat) W := run_part_plain (P := Tryz.prog) W (by kernel_rfl) (by rw [Nat.mul_one]; exact stC_at g i hi)
    have h3 := eq_u8 9998 (f i) (g i) W
    rw [Op.eqItems, Sem.run_bind, h1, Result.andThen_ok, Sem.run_bind, h2, Result.andThen_ok, Sem.run_bind, h3, Result.andThen_ok, List.all_cons]
    cases hb : decide (f i = g i)
    · rfl
    · rw [if_neg (by decide), ih (fun j hj => h j (List.mem_cons_of_mem _ hj)), Bool.true_and]

end Go.Proofs.YthgcoocgeekdnaaGreatDoor
namespace Go.PM
open Go.RowKit
variable {F : Fence} {n : Nat} {P : Program}
/-- one round: blocks from B on lie as they lay, but for the row r, which may go on in a new block -/
structure RowStep (B : Nat) (r r' : Option Nat) (A A' : World) : Prop where
  size : A.heap.size ≤ A'.heap.size
  same : ∀ k, B ≤ k → k < A.heap.size → some k ≠ r → A'.heap[k]? = A.heap[k]?
  row : r' = r ∨ ∀ g, r' = some g → A.heap.size ≤ g
/-- The function gf, called with mk of a yield, hands the elements of xs to it one behind the other, where each round goes on. The loop's facts know the row that the loop fills; the function may read what the caller keeps (Pr), and keeps blocks of its own. -/
def IterR {α : Type} (Pr : World → Prop) (F : Fence) (n : Nat) (P : Program) (gf : Nat) (mk : Value → Array Value) (encs : α → Array Value) (xs : List α) : Prop :=
  ∀ (l : Nat) (J : Option Nat → List α → World → Prop) (r0 : Option Nat) (W : World),
    (∀ r, OwnFrom W.heap.size (J r)) → (∀ r pre A, J r pre A → Pr A ∧ ∀ g, r = some g → g < A.heap.size) →
    (∀ r pre x A, J r pre A → W.heap.size ≤ A.heap.size → pre ++ [x] <+: xs → YieldAt F (n - 1) P l (encs x) A fun e A' =>
      e = .returned (.bool true) ∧ ∃ r', J r' (pre ++ [x]) A' ∧ RowStep W.heap.size r r' A A') →
    J r0 [] W →
    CallsIn F n P gf (mk (.func (.yield l) #[] #[])) W fun e W' => (∃ v, e = .returned v) ∧ ∃ r, J r xs W'
def postR {α : Type} (B : Nat) (I : Option Nat → List α → World → Prop) (xs : List α) (r : Option Nat) (W : World) : Exit → Act → World → Prop
  | .normal, _, W' => ∃ r', I r' xs W' ∧ RowStep B r r' W W'
  | _, _, _ => False
theorem range_lawR {α : Type} {Pr : World → Prop} {g : Operand} {ps : Array Tmp} {assign body : Code} {Q : Exit → Act → World → Prop} {a : Act} {w : World} (hro : F.round = none) (h1 : 1 ≤ n)
    {gf : Nat} {lf lb : Array Value} (hg : a.eval g = .func (.func gf) lf lb) (hFg : F.fn gf) (eg : ∀ args w, (callFunc gf args).run P w = .ok (.enter gf args) w)
    {encs : α → Array Value} {xs : List α} (hit : IterR Pr F (n - 1) P gf (fun y => lf ++ #[y] ++ lb) encs xs) (hps : ∀ x, (encs x).size = ps.size)
    (I : Option Nat → List α → World → Prop) (r0 : Option Nat) (hPr : ∀ r pre A, I r pre A → Pr A ∧ ∀ g, r = some g → ∃ o : Obj, A.heap[g]? = some o ∧ o.isCells = true)
    (hI : ∀ r, OwnFrom w.heap.size (I r)) (h0 : I r0 [] w) (Ax : α → Act → World → Prop) (hAx : ∀ x a', OwnFrom w.heap.size (fun (_ : Unit) W => Ax x a' W))
    (hassign : ∀ (l : Nat) (r : Option Nat) (pre : List α) (x : α) (W : World) (K : Act → World → Prop), I r pre W → pre ++ [x] <+: xs → w.heap.size + 2 ≤ W.heap.size → (∀ a' W', Below W.heap.size W W' → I r pre W' → Ax x a' W' → K a' W') →
      assign.wpIn (F.inRound l) (n - 1 - 1) P (Exit.then K (fun _ _ _ => False)) { tmps := (ps.zip (encs x)).foldl (fun t (p, v) => t.setIfInBounds p v) a.tmps, defers := [] } W)
    (hbody : ∀ (l : Nat) (r : Option Nat) (pre : List α) (x : α) (a' : Act) (W : World), I r pre W → Ax x a' W → pre ++ [x] <+: xs → w.heap.size + 2 ≤ W.heap.size → body.wpIn (F.inRound l) (n - 1 - 1) P (postR w.heap.size I (pre ++ [x]) r W) a' W)
    (hdone : ∀ (D : Nat) (r : Option Nat) (W : World), w.heap.size ≤ D → I r xs W → W.heap[D]? = some (.deferred (some [])) → Q .normal { a with defers := { target := .collected D, args := #[] } :: a.defers } W) :
    (Code.rangeFunc g ps assign body).wpIn F n P Q a w := by
  refine wpIn_rangeFunc fun fn hfn => ?_
  rw [hro]
  have key : ∃ rc : LoopState → Option Code → Loop, rc = fun s j => { state := s, pending := j, fn, tmps := a.tmps, params := ps, assign, body, defers := w.heap.size } := ⟨_, rfl⟩
  obtain ⟨rc, hrc⟩ := key
  let V := (w.alloc (.deferred (some []))).alloc (.loop (rc .ready none))
  let Bk : LoopState → Option Code → World → Prop := fun s j A => A.heap[w.heap.size + 1]? = some (.loop (rc s j)) ∧ A.heap[w.heap.size]? = some (.deferred (some []))
  have bkput : ∀ {s j s' j' A}, Bk s j A → Bk s' j' (A.putObj (w.heap.size + 1) (.loop (rc s' j'))) := fun h =>
    ⟨World.putObj_heap_same (Array.getElem?_eq_some_iff.1 h.1).1, (World.putObj_heap_other (by omega)).trans h.2⟩
  have hVs : V.heap.size = w.heap.size + 2 := by simp [V, World.size_alloc]
  have bknew : ∀ {s j A A' row}, Bk s j A → A.grownBy A' row → (∀ r, row = some r → V.heap.size ≤ r ∧ ∃ o : Obj, A.heap[r]? = some o ∧ o.isCells = false) → Bk s j A' := fun h hg' hr =>
    ⟨(hg'.block _ (Array.getElem?_eq_some_iff.1 h.1).1 (fun e => by have := (hr _ e.symm).1; omega)).trans h.1, (hg'.block _ (Array.getElem?_eq_some_iff.1 h.2).1 (fun e => by have := (hr _ e.symm).1; omega)).trans h.2⟩
  have hV : Bk .ready none V := by
    refine ⟨?_, ?_⟩
    · have := World.alloc_heap_new (w.alloc (.deferred (some []))) (.loop (rc .ready none)); rwa [World.size_alloc] at this
    · exact (Below.heap_alloc _ _ _ (by simp)).trans (World.alloc_heap_new w _)
  have hIV : I r0 [] V := (hI r0).alloc _ ((hI r0).alloc _ h0)
  refine ⟨w.heap.size + 1, [{ target := .collected w.heap.size, args := #[] }], V, { target := .fn (.func gf) lb, args := lf ++ #[.func (.yield (w.heap.size + 1)) #[] #[]] }, V, gf,
    lf ++ #[.func (.yield (w.heap.size + 1)) #[] #[]] ++ lb, V, ?_, ?_, ?_, ?_, fun _ => h1, ?_⟩
  · have := run_enterLoop_outer (P := P) (w := w) fn a.tmps ps assign body
    rw [this]; simp only [V, hrc]
  · simp only [resolve, hg]
    simp [go_sem]
  · intro f' hf'
    simp [Target.leads] at hf'
    subst hf'; exact hFg
  · simp [invoke, go_sem, eg]
  refine (hit (w.heap.size + 1) (fun r pre A => I r pre A ∧ Bk .ready none A) r0 V
    (fun r pre A A' row h hg' hr => ⟨hI r pre A A' row h.1 hg' (fun q e => ⟨by have := (hr q e).1; omega, (hr q e).2⟩), bknew h.2 hg' hr⟩)
    (fun r pre A h => ⟨(hPr r pre A h.1).1, fun g e => by obtain ⟨o, ho, _⟩ := (hPr r pre A h.1).2 g e; exact (Array.getElem?_eq_some_iff.1 ho).1⟩) ?_ ⟨hIV, hV⟩).mono ?_
  · rintro r pre x A ⟨hi, hb⟩ hsz hpx
    have hy := run_yield (P := P) (args := encs x) hb.1 (by rw [hrc]; exact hps x)
    rw [hrc] at hy
    refine ⟨fn, _, assign, body, hy, roundIn_of_wpIn hfn (hassign _ r pre x A _ hi hpx (by omega) ?_)⟩
    intro a' Wa hbl hia hax
    have hlt := (Array.getElem?_eq_some_iff.1 hb.1).1
    replace hb : Bk .ready none Wa := ⟨(hbl.block _ hlt).trans hb.1, (hbl.block _ (by omega)).trans hb.2⟩
    clear hy hi
    refine ⟨_, run_beginRound hb.1 (by rw [hrc]), ?_⟩
    have hszA : A.heap.size ≤ Wa.heap.size := hbl.size
    have hb2 : Bk .busy none (Wa.putObj (w.heap.size + 1) (.loop (rc .busy none))) := bkput hb
    have e2 : ({ rc .ready none with state := .busy } : Loop) = rc .busy none := by rw [hrc]
    rw [e2]
    have hib := (hI r).putObj (.loop (rc .busy none)) hia (by omega) hb.1 rfl
    have hrr := (hPr r pre _ hib).2
    refine wpIn_mono (hbody _ r pre x a' _ hib ((hAx x a').putObj (s := ()) _ hax (by omega) hb.1 rfl) hpx (by simp [World.putObj]; omega)) ?_
    rintro e a3 C hp
    cases e with
    | normal =>
      obtain ⟨r', hi3, hst⟩ := hp
      have hne : ∀ k, w.heap.size ≤ k → k < w.heap.size + 2 → some k ≠ r := fun k hk1 hk2 e => by
        obtain ⟨o, ho, hoc⟩ := hrr k e.symm
        have : k = w.heap.size ∨ k = w.heap.size + 1 := by omega
        rcases this with rfl | rfl
        · rw [hb2.2] at ho; cases ho; cases hoc
        · rw [hb2.1] at ho; cases ho; cases hoc
      have s0 : (Wa.putObj (w.heap.size + 1) (.loop (rc .busy none))).heap.size = Wa.heap.size := by simp [World.putObj]
      have hb3 : Bk .busy none C := ⟨(hst.same _ (by omega) (by omega) (hne _ (by omega) (by omega))).trans hb2.1, (hst.same _ (by omega) (by omega) (hne _ (by omega) (by omega))).trans hb2.2⟩
      have h3 : (Instr.endRound (w.heap.size + 1) none).run P C = .ok (.bool true) (C.putObj (w.heap.size + 1) (.loop (rc .ready none))) := by
        rw [run_endRound (P := P) none hb3.1]; rw [hrc]; rfl
      refine ⟨_, _, h3, rfl, r', ⟨(hI r').putObj _ hi3 (by omega) hb3.1 rfl, bkput hb3⟩, ?_, ?_, ?_⟩
      · have := hst.size; simp [World.putObj] at this ⊢; omega
      · intro k hk1 hk2 hk3
        rw [World.putObj_heap_other (by omega), hst.same k (by omega) (by omega) hk3, World.putObj_heap_other (by omega)]
        exact hbl.block k hk2
      · rcases hst.row with h | h
        · exact .inl h
        · exact .inr fun g e => by have := h g e; omega
    | ret => exact hp.elim
    | exit id => exact hp.elim
    | goto t => exact hp.elim
    | panic ch => exact hp.elim
    | outgrown => exact hp.elim
  · rintro e C ⟨⟨v, rfl⟩, r, hi, hb⟩
    have h3 := run_endLoop (P := P) hb.1 (by rw [hrc]; simp)
    exact ⟨none, _, by rw [h3, hrc], hdone _ r _ (Nat.le_refl _) ((hI r).putObj _ hi (by omega) hb.1 rfl) ((World.putObj_heap_other (by omega)).trans hb.2)⟩
end Go.PM
namespace Go.PM
open Go.RowKit
/-- a move as a step -/
def stpM (m : Mv) : St := (0, m.1, m.2)
def stL (ms : List Mv) : List St := ms.map stpM
theorem three_new (w : World) (a b c : Value) (t : TypeId) : ∀ j u, [a, b, c][j]? = some u → (w.alloc (.cells #[a, b, c] t)).cell? ((⟨w.heap.size, 0, none⟩ : Addr).add j) = some u := by
  intro j u hj
  match j, hj with
  | 0, hj => simp at hj; subst hj; simp [Addr.add]
  | 1, hj => simp at hj; subst hj; simp [Addr.add]
  | 2, hj => simp at hj; subst hj; simp [Addr.add]
theorem wpListIn_lies {F : Fence} {k : Nat} {P : Program} {w : World} {ops : Array Oper} {rest : List Oper} {o : Oper} {a : Act} {Q : Exit → Act → World → Prop} (hgd : o.guard = none) (s x : Operand) (t : TypeId)
    (ho : o.op = .call { callee := .builtin .append, args := #[s, x], argTypes := #[t, t] })
    (base : Nat) (e : TypeId) (i : TypeInfo) (z : Value) (size bytes : Nat) (ht : P.underlying t = some (.slice e)) (hi : P.info? e = some i) (hz : i.zero = some z)
    (hsize : i.size = size) (hby : i.bytes = bytes) (hzs : z.cells.size = size) (hsz : 0 < size)
    (v : Value) (n : Nat) (xs : List Value) (hs : a.eval s = v) (hown : w.ownsRow base e size v n xs)
    (ad : Addr) (m c : Nat) (news : List Value) (hx : a.eval x = .slice (some ad) m c) (hl : news.length = m * size) (hnews : ∀ j u, news[j]? = some u → w.cell? (ad.add j) = some u) (h1 : ∀ u ∈ news, u.oneCell' = true)
    (hm : 0 < m) (h63 : n + m ≤ maxLen) (hbytes : (n + m) * bytes ≤ 140737488355328) (hbase : base ≤ w.heap.size)
    (h : ∀ g cap w', w'.ownsRow base e size (.slice (some ⟨g, 0, none⟩) (n + m) cap) (n + m) (xs ++ news) → w.grownBy w' v.ownBlock → (v.ownBlock = some g ∨ g = w.heap.size) → g < w'.heap.size → wpListIn F k P ops Q rest (a.put o.dst (.slice (some ⟨g, 0, none⟩) (n + m) cap)) w') : wpListIn F k P ops Q (o :: rest) a w := by
  refine wpListIn_plain hgd fun K hK' => ?_
  obtain ⟨g, cap, w', hr, h2, h3, h4, h5⟩ := run_append_lies (P := P) w t o.type base e i z size bytes ht hi hz hsize hby hzs hsz v n xs hown ad m c news hl hnews h1 hm h63 hbytes hbase _ rfl
  unfold Oper.wpIn
  refine ⟨?_, ?_⟩
  · simp [Oper.about, ho, resolve, Target.leads, Sem.run_pure]
  · rw [Oper.semAt_plain F _ _ (by rw [ho]; intro c hc'; cases hc')]
    simp [execOp, ho, resolve, invoke, builtin, hs, hx, hr, Result.andThen]
    exact hK' _ _ (h g cap w' h2 h3 h4 h5)
/-- a row of one's own, and where it lies -/
def RowAt (A : World) (bx : Nat) (bt base : Nat) (e : TypeId) (size : Nat) (r : Option Nat) (n : Nat) (cs : List Value) (o : Value) : Prop :=
  At A bx bt #[o] ∧ A.ownsRow base e size o n cs ∧ o.ownBlock = r
theorem RowAt.turn {A A' : World} {bx bt base : Nat} {e : TypeId} {size : Nat} {r : Option Nat} {n : Nat} {cs : List Value} {o : Value} {row : Option Nat} (h : RowAt A bx bt base e size r n cs o) (hg : A.grownBy A' row) (hr : ∀ q, row = some q → ∃ ob : Obj, A.heap[q]? = some ob ∧ ob.isCells = false) : RowAt A' bx bt base e size r n cs o :=
  ⟨h.1.turn hg hr, own_turn h.2.1 hg hr, h.2.2⟩
theorem RowAt.lives {A : World} {bx bt base : Nat} {e : TypeId} {size : Nat} {r : Option Nat} {n : Nat} {cs : List Value} {o : Value} (h : RowAt A bx bt base e size r n cs o) : ∀ g, r = some g → ∃ ob : Obj, A.heap[g]? = some ob ∧ ob.isCells = true := by
  intro g hg
  obtain ⟨_, h2, h3⟩ := h
  rcases h2.2 with ⟨rfl, _⟩ | ⟨g', cap, cur, rfl, _, hh, _⟩
  · rw [hg] at h3; cases h3
  · rw [hg] at h3
    cases h3
    exact ⟨_, hh, rfl⟩
end Go.PM
namespace Go.Proofs.YthgcoocgeekdnaaGreatDoor
open Go.RowKit Go.PM
attribute [local go_sem] Oper.semAt_some

end Go.Proofs.YthgcoocgeekdnaaGreatDoor
namespace Go.PM
open Go.RowKit
def runM (ms : List Mv) (f : Nat → UInt8) : Nat → UInt8 := ms.foldl (fun g m => updS g (cidx m.1) (rdS g m.2)) f
theorem runM_cons (m : Mv) (ms : List Mv) (f : Nat → UInt8) : runM (m :: ms) f = runM ms (updS f (cidx m.1) (rdS f m.2)) := rfl
theorem runS_stL (ms : List Mv) (f : Nat → UInt8) : runS (stL ms) (stL ms).length f = runM ms f := by
  unfold runS runM stL
  rw [List.take_length, List.foldl_map]
  rfl
theorem spT_cell : isC spT = true ∧ cidx spT = 9 := by decide +kernel
/-- what a waiting move reads -/
def okR (a : ByteArray) : Prop := isP a = true ∨ isD a = true ∨ a = spT
theorem cidx_P {a : ByteArray} (h : isP a = true) : isC a = true ∧ cidx a < 9 ∧ nm (cidx a) = a := by
  have h1 := isP_isC h
  have h2 := pidx_spec h
  rw [h1.2]; exact ⟨h1.1, h2⟩
theorem rdS_ne {a b : ByteArray} (ha : okR a) (hb : isP b = true ∨ b = spT) (hne : a ≠ b) (f : Nat → UInt8) (v : UInt8) : rdS (updS f (cidx b) v) a = rdS f a := by
  have hc : isC a = true → cidx a ≠ cidx b := fun h e => by
    rcases ha with ha | ha | ha
    · rcases hb with hb | hb
      · have h1 := (cidx_P ha).2.2; have h2 := (cidx_P hb).2.2
        rw [e, h2] at h1; exact hne h1.symm
      · have h1 := (cidx_P ha).2.1
        rw [e, hb, spT_cell.2] at h1; omega
    · rw [isD_notC ha] at h; cases h
    · rcases hb with hb | hb
      · have h2 := (cidx_P hb).2.1
        rw [← e, ha, spT_cell.2] at h2; omega
      · exact hne (ha.trans hb.symm)
  unfold rdS
  rcases Bool.eq_false_or_eq_true (isC a) with h | h
  · rw [if_pos h, if_pos h, updS, if_neg (hc h)]
  · rw [if_neg (by rw [h]; decide), if_neg (by rw [h]; decide)]
theorem rdS_same {b : ByteArray} (hb : isP b = true ∨ b = spT) (f : Nat → UInt8) (v : UInt8) : rdS (updS f (cidx b) v) b = v := by
  have : isC b = true := by
    rcases hb with hb | hb
    · exact (cidx_P hb).1
    · rw [hb]; exact spT_cell.1
  rw [rdS_cell this, updS, if_pos rfl]
/-- each waiting move reads what its place is to get, and the other places have it -/
structure Due (T : Nat → UInt8) (ws : List Mv) (f : Nat → UInt8) : Prop where
  rd : ∀ m ∈ ws, rdS f m.2 = T (cidx m.1)
  has : ∀ p, p < 9 → nm p ∉ ws.map (·.1) → f p = T p
theorem Due.some_ {T : Nat → UInt8} {ws : List Mv} {f : Nat → UInt8} (h : Due T ws f) (hw : Wt ws) {i : Nat} (hi : i < ws.length) (hf : rdN ws ws[i].1 = 0) :
    Due T (redM ws[i] (ws.eraseIdx i)) (updS f (cidx ws[i].1) (rdS f ws[i].2)) := by
  have hm := List.getElem_mem hi
  have hp := hw.to_ _ hm
  have hz := rdN_zero.1 hf
  have key : ∀ x ∈ ws.eraseIdx i, rdS (updS f (cidx ws[i].1) (rdS f ws[i].2)) x.2 = T (cidx x.1) := fun x hx => by
    have hx1 := erase_mem hx
    rw [rdS_ne (hw.from_ x hx1) (.inl hp) (hz x hx1)]
    exact h.rd x hx1
  refine ⟨fun m' hm' => ?_, fun p hp9 hn => ?_⟩
  · unfold redM at hm'
    split at hm'
    · exact key m' hm'
    · obtain ⟨x, hx, e1, (⟨e2, e3⟩ | ⟨e2, e3⟩)⟩ := instM_mem hm'
      · rw [e3, rdS_same (.inl hp), e1, ← e2]
        exact h.rd x (erase_mem hx)
      · rw [e3]; exact key x hx
  · rw [redM_keys] at hn
    by_cases e : nm p = ws[i].1
    · have : cidx ws[i].1 = p := by rw [← e, (cidx_nm hp9).2]
      rw [this, updS, if_pos rfl, h.rd _ hm, this]
    · rw [updS, if_neg]
      · refine h.has p hp9 fun hk => ?_
        obtain ⟨x, hx, ex⟩ := List.mem_map.1 hk
        rcases erase_or hi hx with h1 | h1
        · exact e (by rw [← ex, h1])
        · exact hn (List.mem_map.2 ⟨x, h1, ex⟩)
      · intro e2
        exact e (by rw [e2]; exact (cidx_P hp).2.2)
theorem Due.none_ {T : Nat → UInt8} {ws : List Mv} {f : Nat → UInt8} (h : Due T ws f) (hw : Wt ws) (h0 : 0 < ws.length) (hn : aheadI ws = none) :
    Due T (redM (spT, ws[0].1) ws) (updS f (cidx spT) (rdS f ws[0].1)) := by
  obtain ⟨_, _, f3⟩ := hw.full hn
  have hz := rdN_zero.1 f3
  have hp := isP_cases (hw.to_ _ (List.getElem_mem h0))
  refine ⟨fun m' hm' => ?_, fun p hp9 hk => ?_⟩
  · unfold redM at hm'
    rw [if_neg (by show ¬ isD ws[0].1 = true; rw [hp.1]; decide)] at hm'
    obtain ⟨x, hx, e1, (⟨e2, e3⟩ | ⟨e2, e3⟩)⟩ := instM_mem hm'
    · rw [e3, rdS_same (.inr rfl), e1, ← h.rd x hx, e2]
    · rw [e3, rdS_ne (hw.from_ x hx) (.inr rfl) (hz x hx)]
      exact h.rd x hx
  · rw [redM_keys] at hk
    rw [updS, spT_cell.2, if_neg (by omega)]
    exact h.has p hp9 hk
theorem ordF_due {T : Nat → UInt8} : ∀ (n : Nat) (ws : List Mv) (f : Nat → UInt8), Wt ws → muW ws ≤ n → Due T ws f → ∀ p, p < 9 → runM (ordF n ws) f p = T p := by
  intro n
  induction n with
  | zero =>
    intro ws f _ hmu h p hp
    have : ws = [] := List.length_eq_zero_iff.1 (by unfold muW at hmu; omega)
    subst this
    exact h.has p hp (by simp)
  | succ n ih =>
    intro ws f hw hmu h p hp
    by_cases h0 : 0 < ws.length
    · cases ha : aheadI ws with
      | some i =>
        obtain ⟨hi, hf⟩ := aheadI_some ha
        rw [ordF_some hi ha, runM_cons]
        exact ih _ _ (hw.some_ hi hf) (by have := muW_some hi ws[i]; omega) (h.some_ hw hi hf) p hp
      | none =>
        rw [ordF_none h0 ha, runM_cons]
        exact ih _ _ (hw.none_ h0 ha).1 (by have := muW_none hw h0 ha; omega) (h.none_ hw h0 ha) p hp
    · have : ws = [] := List.length_eq_zero_iff.1 (by omega)
      subst this
      rw [ordF_nil]
      exact h.has p hp (by simp)
theorem ordF_ok : ∀ (n : Nat) (ws : List Mv), Wt ws → ∀ m ∈ ordF n ws, (isP m.1 = true ∨ m.1 = spT) ∧ okR m.2 := by
  intro n
  induction n with
  | zero => intro ws _ m hm; cases hm
  | succ n ih =>
    intro ws hw m hm
    by_cases h0 : 0 < ws.length
    · cases ha : aheadI ws with
      | some i =>
        obtain ⟨hi, hf⟩ := aheadI_some ha
        rw [ordF_some hi ha, List.mem_cons] at hm
        rcases hm with rfl | hm
        · exact ⟨.inl (hw.to_ _ (List.getElem_mem hi)), hw.from_ _ (List.getElem_mem hi)⟩
        · exact ih _ (hw.some_ hi hf) m hm
      | none =>
        rw [ordF_none h0 ha, List.mem_cons] at hm
        rcases hm with rfl | hm
        · exact ⟨.inr rfl, .inl (hw.to_ _ (List.getElem_mem h0))⟩
        · exact ih _ (hw.none_ h0 ha).1 m hm
    · have : ws = [] := List.length_eq_zero_iff.1 (by omega)
      subst this
      rw [ordF_nil] at hm; cases hm
theorem stOk_M {m : Mv} (h1 : isP m.1 = true ∨ m.1 = spT) (h2 : okR m.2) : stOk (stpM m) = true := by
  have a1 : isC m.1 = true := by
    rcases h1 with h | h
    · exact (cidx_P h).1
    · rw [h]; exact spT_cell.1
  have a2 : (isC m.2 || isD m.2) = true := by
    rcases h2 with h | h | h
    · rw [(cidx_P h).1]; rfl
    · rw [h, Bool.or_true]
    · rw [h]; decide +kernel
  unfold stOk stpM
  simp only [a1, a2]
  rfl
theorem svalid_stL {ms : List Mv} (hl : ms.length ≤ 60) (h : ∀ m ∈ ms, (isP m.1 = true ∨ m.1 = spT) ∧ okR m.2) : svalid (stL ms) = true := by
  unfold svalid
  rw [Bool.and_eq_true, decide_eq_true_eq, List.all_eq_true]
  refine ⟨by unfold stL; rw [List.length_map]; exact hl, fun x hx => ?_⟩
  obtain ⟨m, hm, rfl⟩ := List.mem_map.1 hx
  exact stOk_M (h m hm).1 (h m hm).2
/-- steps of moves that give each place its value are right -/
theorem right_of_run {ms xs : List Mv} (hv : svalid (stL ms) = true) (hx : MV xs) (h : ∀ p, p < 9 → runM ms nmT p = rdS nmT (srcM xs (nm p))) : irB (stL ms) xs = true := by
  rw [← irB_eq (stL ms) xs hv hx, List.all_eq_true]
  intro p hp
  rw [decide_eq_true_eq]
  by_cases h9 : p < 9
  · rw [if_pos h9, aoS, if_pos h9, srcM_nm hx h9]
    have := h p h9
    rw [← runS_stL] at this
    exact this
  · rw [if_neg h9, aoS, if_neg h9]
theorem busy_due {xs : List Mv} (_hx : MV xs) : Due (fun p => rdS nmT (srcM xs (nm p))) (busyF xs 9) nmT := by
  have hl : busyF xs 9 = lsF (fun p => srcM xs (nm p)) 9 := rfl
  refine ⟨fun m hm => ?_, fun p hp hn => ?_⟩
  · rw [hl] at hm
    obtain ⟨p, hp, _, rfl⟩ := lsF_mem hm
    show _ = rdS nmT (srcM xs (nm (cidx (nm p))))
    rw [(cidx_nm hp).2]
  · have : srcM xs (nm p) = nm p := by
      refine Classical.not_not.1 fun hne => hn ?_
      rw [hl]
      exact List.mem_map.2 ⟨(nm p, srcM xs (nm p)), List.mem_map.2 ⟨p, List.mem_filter.2 ⟨by simpa using hp, by simpa [lsH] using hne⟩, rfl⟩, rfl⟩
    show nmT p = rdS nmT (srcM xs (nm p))
    rw [this, rdS_nm nmT hp]
theorem busy_mu {xs : List Mv} : muW (busyF xs 9) ≤ 19 := by
  have := busyF_len xs 9
  unfold muW
  split <;> omega
theorem ordM_yes {xs : List Mv} (h : MV xs) : ordM xs = ordF 19 (busyF xs 9) := if_pos (by simpa [mvalid] using h)
theorem ordM_valid {xs : List Mv} (h : MV xs) : svalid (stL (ordM xs)) = true := by
  rw [ordM_yes h]
  exact svalid_stL (by have := ordF_len 19 (busyF xs 9); omega) (ordF_ok 19 _ (busyF_Wt h))
/-- the steps of an order do the moves -/
theorem ordM_right {xs : List Mv} (h : MV xs) : irB (stL (ordM xs)) xs = true := by
  refine right_of_run (ordM_valid h) h fun p hp => ?_
  rw [ordM_yes h]
  exact ordF_due 19 _ nmT (busyF_Wt h) busy_mu (busy_due h) p hp
end Go.PM
