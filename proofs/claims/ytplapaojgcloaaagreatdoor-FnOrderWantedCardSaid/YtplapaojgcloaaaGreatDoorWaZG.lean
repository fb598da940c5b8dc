import Derived.Test.YtplapaojgcloaaaGreatDoorWaZA
import Derived.Test.YtplapaojgcloaaaGreatDoorPm
import Derived.Test.YtplapaojgcloaaaGreatDoorReaders
import Derived.Test.YtplapaojgcloaaaGreatDoorSource
import Derived.Test.YtplapaojgcloaaaGreatDoorHar
import Derived.LaidEqlPtr
import Derived.Test.YtplapaojgcloaaaGreatDoorTail
import Derived.Test.YtplapaojgcloaaaGreatDoorNames
import Derived.Test.YtplapaojgcloaaaGreatDoorNamesIn
import Derived.Test.YtplapaojgcloaaaGreatDoorApp
import Derived.Test.YtplapaojgcloaaaGreatDoorRange
namespace Go.PM
open Go.RowKit
/-- place p is the first one of a ring of moves that are read once each -/
def Clo (ws : List Mv) (p : Nat) : Prop := ∃ (n : Nat) (o : Nat → ByteArray), 0 < n ∧ o 0 = nm p ∧ o n = nm p ∧ ∀ k, k < n → (o k, o (k + 1)) ∈ ws ∧ rdN ws (o k) = 1 ∧ p ≤ pidx (o k)
theorem ring_wrap {o : Nat → ByteArray} {n k : Nat} (_h0 : 0 < n) (e : o n = o 0) (hk : k < n) : ∃ j, j < n ∧ o (k + 1) = o j := by
  by_cases h : k + 1 < n
  · exact ⟨k + 1, h, rfl⟩
  · exact ⟨0, by omega, by rw [show k + 1 = n by omega, e]⟩
theorem ring_prev {o : Nat → ByteArray} {n k : Nat} (h0 : 0 < n) (e : o n = o 0) (hk : k < n) : ∃ j, j < n ∧ o (j + 1) = o k := by
  by_cases h : k = 0
  · exact ⟨n - 1, by omega, by rw [show n - 1 + 1 = n by omega, e, h]⟩
  · exact ⟨k - 1, by omega, by rw [show k - 1 + 1 = k by omega]⟩
theorem one_reader {ws : List Mv} {a : ByteArray} (h : rdN ws a = 1) {x y : Mv} (hx : x ∈ ws) (hy : y ∈ ws) (ex : x.2 = a) (ey : y.2 = a) : x = y := by
  obtain ⟨i, hi, rfl⟩ := List.getElem_of_mem hx
  have h1 := rdN_erase ws i hi a
  rw [if_pos ex, h] at h1
  have h2 := rdN_zero.1 (show rdN (ws.eraseIdx i) a = 0 by omega)
  rcases erase_or hi hy with e | e
  · exact e.symm
  · exact absurd ey (h2 y e)
theorem redM_rdN {ws : List Mv} {m : Mv} (hne : m.1 ≠ m.2) {a : ByteArray} (h1 : a ≠ m.1) (h2 : a ≠ m.2) : rdN (redM m ws) a = rdN ws a := by
  unfold redM; split
  · rfl
  · exact (instM_rdN m.2 m.1 hne ws).2.2 a h2 h1
/-- a ring of moves that are read once each is what it was when one is done that can be done ahead of all others -/
theorem Clo.some_ {ws : List Mv} (hw : Wt ws) {i : Nat} (hi : i < ws.length) (hf : rdN ws ws[i].1 = 0) (p : Nat) : Clo (redM ws[i] (ws.eraseIdx i)) p ↔ Clo ws p := by
  have hm := List.getElem_mem hi
  have hne := hw.ne _ hm
  have hk1 := erase_key hw.keys hi
  constructor
  · rintro ⟨n, o, hn, e0, en, h⟩
    have een : o n = o 0 := en.trans e0.symm
    have hkey : ∀ k, k < n → (∃ x ∈ ws.eraseIdx i, x.1 = o k) := fun k hk => by
      have h1 := List.mem_map_of_mem (f := (·.1)) (h k hk).1
      rw [redM_keys] at h1
      obtain ⟨x, hx, e⟩ := List.mem_map.1 h1
      exact ⟨x, hx, e⟩
    have hnk : ∀ k, k < n → o k ≠ ws[i].1 := fun k hk e => by
      obtain ⟨x, hx, ex⟩ := hkey k hk
      exact hk1 x hx (ex.trans e)
    have hnm : ∀ k, k < n → o k ≠ ws[i].2 := fun k hk e => by
      obtain ⟨x, hx, ex⟩ := hkey k hk
      have hp := hw.to_ x (erase_mem hx)
      rw [ex, e] at hp
      have hr := (h k hk).2.1
      unfold redM at hr
      rw [if_neg (by rw [(isP_cases hp).1]; decide), e, (instM_rdN ws[i].2 ws[i].1 hne _).1] at hr
      cases hr
    refine ⟨n, o, hn, e0, en, fun k hk => ⟨?_, ?_, (h k hk).2.2⟩⟩
    · have hmem := (h k hk).1
      obtain ⟨j, hj, ej⟩ := ring_wrap hn een hk
      unfold redM at hmem
      split at hmem
      · exact erase_mem hmem
      · obtain ⟨x, hx, e1, (⟨e2, e3⟩ | ⟨e2, e3⟩)⟩ := instM_mem hmem
        · exact absurd (ej ▸ e3) (hnk j hj)
        · rw [e3]; exact erase_mem hx
    · have hr := (h k hk).2.1
      rw [redM_rdN hne (hnk k hk) (hnm k hk)] at hr
      rw [rdN_erase ws i hi, hr, if_neg (fun e => hnm k hk e.symm)]
  · rintro ⟨n, o, hn, e0, en, h⟩
    have een : o n = o 0 := en.trans e0.symm
    have hnk : ∀ k, k < n → o k ≠ ws[i].1 := fun k hk e => by
      have := (h k hk).2.1
      rw [e, hf] at this; cases this
    have hnm : ∀ k, k < n → o k ≠ ws[i].2 := fun k hk e => by
      obtain ⟨j, hj, ej⟩ := ring_prev hn een hk
      have := one_reader (h k hk).2.1 (h j hj).1 hm ej e.symm
      exact hnk j hj (by rw [← this])
    refine ⟨n, o, hn, e0, en, fun k hk => ⟨?_, ?_, (h k hk).2.2⟩⟩
    · have hmem : (o k, o (k + 1)) ∈ ws.eraseIdx i := by
        rcases erase_or hi (h k hk).1 with e | e
        · exact absurd (by rw [← e]) (hnk k hk)
        · exact e
      obtain ⟨j, hj, ej⟩ := ring_wrap hn een hk
      unfold redM
      split
      · exact hmem
      · unfold instM
        refine List.mem_map.2 ⟨_, hmem, ?_⟩
        rw [if_neg]
        show ¬ o (k + 1) = _
        rw [ej]; exact hnm j hj
    · rw [redM_rdN hne (hnk k hk) (hnm k hk)]
      have := rdN_erase ws i hi (o k)
      rw [if_neg (fun e => hnm k hk e.symm), (h k hk).2.1] at this
      omega
/-- the moves stand in the order of their places -/
def Srt (ws : List Mv) : Prop := ws.Pairwise fun a b => pidx a.1 < pidx b.1
theorem Srt.of_keys {ws vs : List Mv} (h : Srt ws) (e : vs.map (·.1) = ws.map (·.1)) : Srt vs := by
  have h1 : (ws.map (·.1)).Pairwise fun a b => pidx a < pidx b := List.pairwise_map.2 h
  rw [← e] at h1
  exact (List.pairwise_map (f := fun m : Mv => m.1) (R := fun a b => pidx a < pidx b)).1 h1
theorem Srt.erase {ws : List Mv} (h : Srt ws) (i : Nat) : Srt (ws.eraseIdx i) := List.Pairwise.sublist (List.eraseIdx_sublist ws i) h
theorem Srt.first {ws : List Mv} (h : Srt ws) (h0 : 0 < ws.length) : ∀ m ∈ ws, pidx ws[0].1 ≤ pidx m.1 := by
  cases ws with
  | nil => simp at h0
  | cons x xs =>
    intro m hm
    rw [List.mem_cons] at hm
    rcases hm with rfl | hm
    · exact Nat.le_refl _
    · exact Nat.le_of_lt ((List.pairwise_cons.1 h).1 m hm)
theorem pidx_inj {a b : ByteArray} (ha : isP a = true) (hb : isP b = true) (e : pidx a = pidx b) : a = b := by
  rw [← (pidx_spec ha).2, e, (pidx_spec hb).2]
theorem Clo.none_other {ws : List Mv} (hw : Wt ws) (hs : Srt ws) (h0 : 0 < ws.length) (hn : aheadI ws = none) {p : Nat} (hp : nm p ≠ ws[0].1) (hp9 : p < 9) : Clo (redM (spT, ws[0].1) ws) p ↔ Clo ws p := by
  obtain ⟨f1, f2, f3⟩ := hw.full hn
  have hm := List.getElem_mem h0
  have hc := isP_cases (hw.to_ _ hm)
  have hne : (spT : ByteArray) ≠ ws[0].1 := fun e => hc.2 e.symm
  have hr : redM (spT, ws[0].1) ws = instM ws[0].1 spT ws := by
    unfold redM; rw [if_neg (by show ¬ isD ws[0].1 = true; rw [hc.1]; decide)]
  rw [hr]
  obtain ⟨r1, _, r3⟩ := instM_rdN ws[0].1 spT hne ws
  constructor
  · rintro ⟨n, o, hn', e0, en, h⟩
    have een : o n = o 0 := en.trans e0.symm
    have hkey : ∀ k, k < n → (∃ x ∈ ws, x.1 = o k) := fun k hk => by
      have h1 := List.mem_map_of_mem (f := (·.1)) (h k hk).1
      rw [instM_keys] at h1
      obtain ⟨x, hx, e⟩ := List.mem_map.1 h1
      exact ⟨x, hx, e⟩
    have hnt : ∀ k, k < n → o k ≠ spT := fun k hk e => by
      obtain ⟨x, hx, ex⟩ := hkey k hk
      exact (isP_cases (hw.to_ x hx)).2 (ex.trans e)
    have hnm : ∀ k, k < n → o k ≠ ws[0].1 := fun k hk e => by
      have := (h k hk).2.1
      rw [e, r1] at this; cases this
    refine ⟨n, o, hn', e0, en, fun k hk => ⟨?_, ?_, (h k hk).2.2⟩⟩
    · obtain ⟨j, hj, ej⟩ := ring_wrap hn' een hk
      obtain ⟨x, hx, e1, (⟨e2, e3⟩ | ⟨e2, e3⟩)⟩ := instM_mem (h k hk).1
      · exact absurd (ej ▸ e3) (hnt j hj)
      · rw [e3]; exact hx
    · have := (h k hk).2.1
      rwa [r3 _ (hnm k hk) (hnt k hk)] at this
  · rintro ⟨n, o, hn', e0, en, h⟩
    have een : o n = o 0 := en.trans e0.symm
    have hnm : ∀ k, k < n → o k ≠ ws[0].1 := fun k hk e => by
      have h1 := (h k hk).2.2
      have h2 := hs.first h0 _ (h 0 hn').1
      simp only [e0, pidx_nm hp9] at h2
      rw [e] at h1
      exact hp (pidx_inj (isP_nm hp9) (hw.to_ _ hm) (by rw [pidx_nm hp9]; omega))
    have hnt : ∀ k, k < n → o k ≠ spT := fun k hk e => by
      exact (isP_cases (hw.to_ _ (h k hk).1)).2 e
    refine ⟨n, o, hn', e0, en, fun k hk => ⟨?_, ?_, (h k hk).2.2⟩⟩
    · obtain ⟨j, hj, ej⟩ := ring_wrap hn' een hk
      unfold instM
      refine List.mem_map.2 ⟨_, (h k hk).1, ?_⟩
      rw [if_neg]
      show ¬ o (k + 1) = _
      rw [ej]; exact hnm j hj
    · rw [r3 _ (hnm k hk) (hnt k hk)]; exact (h k hk).2.1
theorem pigeon : ∀ (n : Nat) (f : Nat → Nat), (∀ k, k ≤ n → f k < n) → ∃ i j, i < j ∧ j ≤ n ∧ f i = f j := by
  intro n f h
  refine Classical.byContradiction fun hno => ?_
  have hnd : ((List.range (n + 1)).map f).Nodup := by
    rw [List.nodup_iff_pairwise_ne, List.pairwise_map]
    refine List.Pairwise.imp_of_mem ?_ (List.pairwise_lt_range (n := n + 1))
    intro a b _ hb hab e
    exact hno ⟨a, b, hab, by have := List.mem_range.1 hb; omega, e⟩
  have := nodup_le ((List.range (n + 1)).map f) (List.range n) hnd (fun a ha => by
    obtain ⟨k, hk, rfl⟩ := List.mem_map.1 ha
    exact List.mem_range.2 (h k (by have := List.mem_range.1 hk; omega)))
  simp at this
  omega
theorem Clo.none_self {ws : List Mv} (hw : Wt ws) (hs : Srt ws) (h0 : 0 < ws.length) (hn : aheadI ws = none) : Clo ws (pidx ws[0].1) ∧ ¬ Clo (redM (spT, ws[0].1) ws) (pidx ws[0].1) := by
  obtain ⟨f1, f2, f3⟩ := hw.full hn
  have hm := List.getElem_mem h0
  have hP := hw.to_ _ hm
  have hc := isP_cases hP
  have hne : (spT : ByteArray) ≠ ws[0].1 := fun e => hc.2 e.symm
  have hnm := (pidx_spec hP).2
  constructor
  · -- go round
    let nx : ByteArray → ByteArray := fun a => srcM ws a
    have hMV : MV ws := ⟨fun m hm => by
      unfold mok isS
      rw [hw.to_ m hm, Bool.true_and, Bool.or_eq_true]
      rcases hw.from_ m hm with h | h | h
      · exact .inl h
      · exact .inr h
      · exact absurd h (rdN_zero.1 f3 m hm), hw.keys⟩
    have hnx : ∀ m ∈ ws, nx m.1 = m.2 := fun m hm => srcM_of_mem hMV hm
    obtain ⟨o, ho0, hos⟩ : ∃ o : Nat → ByteArray, o 0 = ws[0].1 ∧ ∀ k, o (k + 1) = nx (o k) := ⟨fun k => Nat.rec ws[0].1 (fun _ a => nx a) k, rfl, fun _ => rfl⟩
    have hin : ∀ k, (o k, o (k + 1)) ∈ ws := by
      intro k
      induction k with
      | zero =>
        rw [hos, ho0, hnx _ hm]; exact hm
      | succ k ih =>
        obtain ⟨x, hx, ex⟩ := f2 _ ih
        have e1 : x.1 = o (k + 1) := ex
        rw [hos (k + 1), ← e1, hnx x hx]; exact hx
    have hisP : ∀ k, isP (o k) = true := fun k => hw.to_ _ (hin k)
    obtain ⟨i, j, hij, hj, e⟩ := pigeon 9 (fun k => pidx (o k)) (fun k _ => (pidx_spec (hisP k)).1)
    have e' : o i = o j := pidx_inj (hisP i) (hisP j) e
    have back : ∀ d, d ≤ i → o (i - d) = o (j - d) := by
      intro d
      induction d with
      | zero => intro _; exact e'
      | succ d ih =>
        intro hd
        have h1 := ih (by omega)
        have a1 := hin (i - (d + 1))
        have a2 := hin (j - (d + 1))
        have a3 := hin (i - d)
        rw [show i - (d + 1) + 1 = i - d by omega] at a1
        rw [show j - (d + 1) + 1 = j - d by omega, ← h1] at a2
        have := one_reader (f1 _ a3) a1 a2 rfl rfl
        exact congrArg (·.1) this
    have e0 := back i (Nat.le_refl _)
    rw [Nat.sub_self] at e0
    refine ⟨j - i, o, by omega, ho0.trans hnm.symm, by rw [← e0, ho0, hnm], fun k hk => ⟨hin k, f1 _ (hin k), hs.first h0 _ (hin k)⟩⟩
  · rintro ⟨n, o, hn', e0, en, h⟩
    have hr : redM (spT, ws[0].1) ws = instM ws[0].1 spT ws := by
      unfold redM; rw [if_neg (by show ¬ isD ws[0].1 = true; rw [hc.1]; decide)]
    have := (h 0 hn').2.1
    rw [e0, hnm, hr, (instM_rdN ws[0].1 spT hne ws).1] at this
    cases this
noncomputable def cloB (ws : List Mv) (p : Nat) : Bool := @decide (Clo ws p) (Classical.propDecidable _)
theorem cloB_iff {ws : List Mv} {p : Nat} : cloB ws p = true ↔ Clo ws p := @decide_eq_true_iff _ (Classical.propDecidable _)
theorem cloB_no {ws : List Mv} {p : Nat} : cloB ws p = false ↔ ¬ Clo ws p := @decide_eq_false_iff_not _ (Classical.propDecidable _)
theorem cloB_eq {ws vs : List Mv} {p : Nat} (h : Clo ws p ↔ Clo vs p) : cloB ws p = cloB vs p := by
  rw [Bool.eq_iff_iff, cloB_iff, cloB_iff]; exact h
noncomputable def cloN (ws : List Mv) : Nat := ((List.range 9).filter (cloB ws)).length
theorem cloN_congr {ws vs : List Mv} (h : ∀ p, p < 9 → (Clo ws p ↔ Clo vs p)) : cloN ws = cloN vs := by
  unfold cloN
  congr 1
  exact List.filter_congr fun p hp => cloB_eq (h p (List.mem_range.1 hp))
theorem filter_less {α : Type _} [DecidableEq α] (P Q : α → Bool) (a : α) : ∀ l : List α, l.Nodup → a ∈ l → P a = true → Q a = false → (∀ b ∈ l, b ≠ a → Q b = P b) → (l.filter P).length = (l.filter Q).length + 1
  | [], _, h, _, _, _ => by cases h
  | x :: l, hn, ha, hP, hQ, hb => by
    rw [List.nodup_cons] at hn
    by_cases e : x = a
    · subst e
      have e2 : l.filter P = l.filter Q := List.filter_congr fun b hbm => ((hb b (by simp [hbm])) fun e => hn.1 (e ▸ hbm)).symm
      simp [hP, hQ, e2]
    · have ha' : a ∈ l := by
        rw [List.mem_cons] at ha
        exact ha.resolve_left fun e' => e e'.symm
      have ih := filter_less P Q a l hn.2 ha' hP hQ fun b hbm => hb b (by simp [hbm])
      have hx := hb x (by simp) e
      rw [List.filter_cons, List.filter_cons, hx]
      split
      · simp only [List.length_cons]; omega
      · exact ih
/-- an order takes a step for each move and one for each closed ring -/
theorem ordF_count : ∀ (n : Nat) (ws : List Mv), Wt ws → Srt ws → muW ws ≤ n → (ordF n ws).length = ws.length + cloN ws ∧ ((ordF n ws).any (fun m => decide (m.1 = spT)) = decide (0 < cloN ws)) := by
  have hz : cloN [] = 0 := by
    unfold cloN
    rw [List.length_eq_zero_iff, List.filter_eq_nil_iff]
    intro p _ h
    obtain ⟨n, o, hn, _, _, h⟩ := cloB_iff.1 h
    cases (h 0 hn).1
  intro n
  induction n with
  | zero =>
    intro ws _ _ hmu
    have : ws = [] := List.length_eq_zero_iff.1 (by unfold muW at hmu; omega)
    subst this
    rw [hz]; exact ⟨rfl, rfl⟩
  | succ n ih =>
    intro ws hw hs hmu
    by_cases h0 : 0 < ws.length
    · cases ha : aheadI ws with
      | some i =>
        obtain ⟨hi, hf⟩ := aheadI_some ha
        have e := cloN_congr fun p _ => Clo.some_ hw hi hf p
        obtain ⟨i1, i2⟩ := ih _ (hw.some_ hi hf) ((hs.erase i).of_keys (redM_keys _ _)) (by have := muW_some hi ws[i]; omega)
        rw [e, redM_len, List.length_eraseIdx_of_lt hi] at i1
        rw [e] at i2
        rw [ordF_some hi ha, List.length_cons, List.any_cons, i2, i1]
        refine ⟨by omega, ?_⟩
        have : ¬ ws[i].1 = spT := (isP_cases (hw.to_ _ (List.getElem_mem hi))).2
        simp [this]
      | none =>
        have hself := Clo.none_self hw hs h0 ha
        have hP := hw.to_ _ (List.getElem_mem h0)
        have hp := pidx_spec hP
        have e : cloN ws = cloN (redM (spT, ws[0].1) ws) + 1 := by
          unfold cloN
          refine filter_less _ _ (pidx ws[0].1) _ List.nodup_range (List.mem_range.2 hp.1) (cloB_iff.2 hself.1) (cloB_no.2 hself.2) fun b hb hne => ?_
          have hb9 := List.mem_range.1 hb
          refine cloB_eq (Clo.none_other hw hs h0 ha (fun e => hne ?_) hb9)
          rw [← e, pidx_nm hb9]
        obtain ⟨i1, _⟩ := ih _ (hw.none_ h0 ha).1 (hs.of_keys (redM_keys _ _)) (by have := muW_none hw h0 ha; omega)
        rw [redM_len] at i1
        rw [ordF_none h0 ha, List.length_cons, List.any_cons, i1]
        refine ⟨by omega, ?_⟩
        have : 0 < cloN ws := by omega
        simp [this]
    · have : ws = [] := List.length_eq_zero_iff.1 (by omega)
      subst this
      rw [ordF_nil, hz]; exact ⟨rfl, rfl⟩
theorem busyF_Srt (xs : List Mv) : Srt (busyF xs 9) := by
  unfold Srt busyF
  rw [List.pairwise_map]
  refine List.Pairwise.imp_of_mem ?_ ((List.pairwise_lt_range (n := 9)).filter (busyH xs))
  intro a b ha hb hab
  have h1 := List.mem_range.1 (List.mem_filter.1 ha).1
  have h2 := List.mem_range.1 (List.mem_filter.1 hb).1
  show pidx (nm a) < pidx (nm b)
  rw [pidx_nm h1, pidx_nm h2]; exact hab
end Go.PM
namespace Go.PW

/-- the chain from s on: nx says whence a value comes, none where it stays -/
def orb (nx : Nat → Option Nat) (s : Nat) : Nat → Option Nat
  | 0 => some s
  | k + 1 => (orb nx s k).bind nx
def wayF (nx : Nat → Option Nat) : Nat → List Nat → Option Nat → List Nat
  | 0, acc, _ => acc
  | _ + 1, acc, none => acc
  | n + 1, acc, some i => if i ∈ acc then acc else wayF nx n (acc ++ [i]) (nx i)
def way (nx : Nat → Option Nat) (s : Nat) : List Nat := wayF nx 20 [] (some s)
structure Nice (nx : Nat → Option Nat) : Prop where
  lt : ∀ i j, nx i = some j → j < 19
  irr : ∀ i, nx i ≠ some i
  low : ∀ i j, nx i = some j → i < 9

variable {nx : Nat → Option Nat}
theorem nodup_le : ∀ (l : List Nat) (n : Nat), l.Nodup → (∀ a ∈ l, a < n) → l.length ≤ n := by
  intro l n h1 h2
  have := Go.PM.nodup_le l (List.range n) h1 (fun a ha => List.mem_range.2 (h2 a ha))
  simpa using this

/-- what an accumulator of the way holds -/
structure Acc (nx : Nat → Option Nat) (s : Nat) (acc : List Nat) : Prop where
  at_ : ∀ j, j < acc.length → acc[j]? = orb nx s j
  nodup : acc.Nodup
  lt : ∀ a ∈ acc, a < 19
theorem Acc.nil (s : Nat) : Acc nx s [] := ⟨fun j h => by simp at h, List.nodup_nil, fun a h => by simp at h⟩
theorem orb_lt (hn : Nice nx) {s : Nat} (hs : s < 19) : ∀ k i, orb nx s k = some i → i < 19 := by
  intro k i h
  cases k with
  | zero => simp only [orb, Option.some.injEq] at h; omega
  | succ k =>
    simp only [orb, Option.bind_eq_some_iff] at h
    obtain ⟨j, _, h⟩ := h
    exact hn.lt j i h
theorem Acc.snoc (hn : Nice nx) {s : Nat} (hs : s < 19) {acc : List Nat} (h : Acc nx s acc) {i : Nat} (hi : orb nx s acc.length = some i) (hm : i ∉ acc) : Acc nx s (acc ++ [i]) := by
  refine ⟨fun j hj => ?_, ?_, fun a ha => ?_⟩
  · rcases Nat.lt_or_ge j acc.length with h1 | h1
    · rw [List.getElem?_append_left h1]; exact h.at_ j h1
    · have : j = acc.length := by simp at hj; omega
      subst this
      rw [List.getElem?_append_right (by omega)]; simp [hi]
  · rw [List.nodup_append]
    exact ⟨h.nodup, by simp, fun a ha b hb e => by simp at hb; subst hb; subst e; exact hm ha⟩
  · rw [List.mem_append] at ha
    rcases ha with ha | ha
    · exact h.lt a ha
    · simp at ha; subst ha; exact orb_lt hn hs _ _ hi
theorem Acc.len {s : Nat} {acc : List Nat} (h : Acc nx s acc) : acc.length ≤ 19 := nodup_le acc 19 h.nodup h.lt

/-- what the whole way is -/
structure Rho (nx : Nat → Option Nat) (s : Nat) (w : List Nat) : Prop extends Acc nx s w where
  pos : 0 < w.length
  last : orb nx s w.length = none ∨ ∃ mu, mu < w.length ∧ orb nx s w.length = orb nx s mu
theorem wayF_rho (hn : Nice nx) {s : Nat} (hs : s < 19) : ∀ (n : Nat) (acc : List Nat), Acc nx s acc → acc.length + n = 20 → Rho nx s (wayF nx n acc (orb nx s acc.length)) := by
  intro n
  induction n with
  | zero => intro acc h hl; have := h.len; omega
  | succ n ih =>
    intro acc h hl
    cases hc : orb nx s acc.length with
    | none =>
      show Rho nx s acc
      have : acc.length ≠ 0 := by intro h0; rw [h0] at hc; simp [orb] at hc
      exact ⟨h, by omega, .inl hc⟩
    | some i =>
      show Rho nx s (if i ∈ acc then acc else wayF nx n (acc ++ [i]) (nx i))
      by_cases hm : i ∈ acc
      · rw [if_pos hm]
        obtain ⟨mu, hmu⟩ := List.getElem?_of_mem hm
        have hlt := (List.getElem?_eq_some_iff.1 hmu).1
        exact ⟨h, by omega, .inr ⟨mu, hlt, by rw [hc, ← h.at_ mu hlt, hmu]⟩⟩
      · rw [if_neg hm]
        have := ih (acc ++ [i]) (h.snoc hn hs hc hm) (by simp; omega)
        rw [show (acc ++ [i]).length = acc.length + 1 by simp] at this
        simpa only [orb, hc, Option.bind_some] using this
theorem way_rho (hn : Nice nx) {s : Nat} (hs : s < 19) : Rho nx s (way nx s) := wayF_rho hn hs 20 [] (Acc.nil s) rfl
/-- the step of a walk of the way -/
theorem wayF_step {n : Nat} {acc : List Nat} {i : Nat} (hm : i ∉ acc) : wayF nx (n + 1) acc (some i) = wayF nx n (acc ++ [i]) (nx i) := by
  show (if i ∈ acc then acc else _) = _; rw [if_neg hm]
theorem wayF_hit {n : Nat} {acc : List Nat} {i : Nat} (hm : i ∈ acc) : wayF nx n acc (some i) = acc := by
  cases n with
  | zero => rfl
  | succ n => show (if i ∈ acc then acc else _) = _; rw [if_pos hm]
theorem wayF_none {n : Nat} {acc : List Nat} : wayF nx n acc none = acc := by cases n <;> rfl

theorem orb_add (s : Nat) (a b : Nat) : orb nx s (a + b) = (orb nx s a).bind fun i => orb nx i b := by
  induction b with
  | zero => simp only [Nat.add_zero, orb]; cases orb nx s a <;> rfl
  | succ b ih =>
    rw [← Nat.add_assoc]; simp only [orb]; rw [ih]
    cases orb nx s a <;> rfl
theorem orb_shift {s a b : Nat} (h : orb nx s a = orb nx s b) (k : Nat) : orb nx s (a + k) = orb nx s (b + k) := by
  rw [orb_add, orb_add, h]
theorem orb_none {s a : Nat} (h : orb nx s a = none) (k : Nat) : orb nx s (a + k) = none := by rw [orb_add, h]; rfl
theorem orb_none_ge {s a b : Nat} (h : orb nx s a = none) (hb : a ≤ b) : orb nx s b = none := by
  have := orb_none h (b - a); rwa [show a + (b - a) = b by omega] at this
section
variable {s : Nat} {w : List Nat}
theorem Rho.some_ (h : Rho nx s w) {j : Nat} (hj : j < w.length) : orb nx s j = some w[j] := by rw [← h.at_ j hj, List.getElem?_eq_getElem hj]
theorem Rho.inj (h : Rho nx s w) {i j : Nat} (hi : i < w.length) (hj : j < w.length) (e : orb nx s i = orb nx s j) : i = j := by
  rw [h.some_ hi, h.some_ hj] at e
  exact (List.getElem_inj h.nodup).1 (Option.some.inj e)
theorem Rho.unique (h : Rho nx s w) {v : List Nat} (k : Rho nx s v) : w = v := by
  have key : ∀ {w v : List Nat}, Rho nx s w → Rho nx s v → ¬ w.length < v.length := by
    intro w v h k hlt
    rcases h.last with h1 | ⟨mu, hmu, h1⟩
    · rw [k.some_ hlt] at h1; cases h1
    · have := k.inj hlt (by omega) h1; omega
  have hl : w.length = v.length := by have := key h k; have := key k h; omega
  apply List.ext_getElem?
  intro j
  rcases Nat.lt_or_ge j w.length with h1 | h1
  · rw [h.at_ j h1, k.at_ j (by omega)]
  · rw [List.getElem?_eq_none h1, List.getElem?_eq_none (by omega)]
/-- every element of the chain is one of the way's, behind the ring's start if it was there -/
theorem Rho.fold (h : Rho nx s w) {mu : Nat} (hmu : mu < w.length) (e : orb nx s w.length = orb nx s mu) : ∀ k, ∃ p, p < w.length ∧ orb nx s k = orb nx s p ∧ (k < w.length → p = k) ∧ (mu ≤ k → mu ≤ p) := by
  intro k
  induction k with
  | zero => exact ⟨0, h.pos, rfl, fun _ => rfl, fun h => h⟩
  | succ k ih =>
    obtain ⟨p, h1, h2, h3, h4⟩ := ih
    by_cases hl : p + 1 < w.length
    · refine ⟨p + 1, hl, by simp only [orb]; rw [h2], fun hk => by rw [h3 (by omega)], fun hk => ?_⟩
      by_cases hkm : mu ≤ k
      · have := h4 hkm; omega
      · have := h3 (by omega); omega
    · refine ⟨mu, hmu, ?_, fun hk => ?_, fun _ => Nat.le_refl _⟩
      · have : p + 1 = w.length := by omega
        rw [← e, ← this]; simp only [orb]; rw [h2]
      · have := h3 (by omega); omega
theorem Rho.later (h : Rho nx s w) {mu : Nat} (hmu : mu < w.length) (e : orb nx s w.length = orb nx s mu) {j k : Nat} (hj : j < mu) (hk : mu ≤ k) : orb nx s j ≠ orb nx s k := by
  obtain ⟨p, h1, h2, _, h4⟩ := h.fold hmu e k
  intro e2
  rw [h2] at e2
  have := h.inj (by omega) h1 e2
  have := h4 hk; omega

/-- a spot on a ring -/
def OnR (nx : Nat → Option Nat) (s : Nat) : Prop := ∃ k, 0 < k ∧ orb nx s k = some s
theorem Rho.onR (h : Rho nx s w) : OnR nx s ↔ orb nx s w.length = some s := by
  constructor
  · rintro ⟨k, hk, e⟩
    rcases h.last with h1 | ⟨mu, hmu, h1⟩
    · rcases Nat.lt_or_ge k w.length with h2 | h2
      · have := h.inj h2 h.pos (by rw [e]; rfl); omega
      · rw [orb_none_ge h1 h2] at e; cases e
    · rcases Nat.eq_zero_or_pos mu with h0 | h0
      · subst h0; rw [h1]; rfl
      · exfalso
        rcases Nat.lt_or_ge k w.length with h2 | h2
        · have := h.inj h2 h.pos (by rw [e]; rfl); omega
        · exact h.later hmu h1 h0 (show mu ≤ k by omega) (by rw [e]; rfl)
  · intro e; exact ⟨_, h.pos, e⟩
/-- the way runs into its ring at mu -/
theorem Rho.ring_at (h : Rho nx s w) {mu : Nat} (hmu : mu < w.length) (e : orb nx s w.length = orb nx s mu) {j i : Nat} (hi : orb nx s j = some i) : OnR nx i ↔ mu ≤ j := by
  constructor
  · rintro ⟨k, hk, e2⟩
    rcases Nat.lt_or_ge j mu with h1 | h1
    · exfalso
      -- i comes again and again, so also behind mu
      have h2 : ∀ t, orb nx s (j + k * t) = some i := by
        intro t
        induction t with
        | zero => simpa using hi
        | succ t ih => rw [Nat.mul_succ, ← Nat.add_assoc, orb_add, ih]; exact e2
      have h3 := h2 mu
      have h4 : mu ≤ j + k * mu := by have := Nat.le_mul_of_pos_left mu hk; omega
      exact h.later hmu e h1 h4 (by rw [hi, h3])
    · exact h1
  · intro hj
    obtain ⟨p, h1, h2, _, h4⟩ := h.fold hmu e j
    have hp := h4 hj
    refine ⟨w.length - mu, by omega, ?_⟩
    have h5 := orb_shift (nx := nx) (s := s) e (p - mu)
    rw [show mu + (p - mu) = p by omega, ← h2, hi, show w.length + (p - mu) = p + (w.length - mu) by omega, orb_add, ← h2, hi] at h5
    exact h5
theorem Rho.no_ring (_h : Rho nx s w) (e : orb nx s w.length = none) {j i : Nat} (hi : orb nx s j = some i) : ¬ OnR nx i := by
  rintro ⟨k, hk, e2⟩
  have h2 : ∀ t, orb nx s (j + k * t) = some i := by
    intro t
    induction t with
    | zero => simpa using hi
    | succ t ih => rw [Nat.mul_succ, ← Nat.add_assoc, orb_add, ih]; exact e2
  have h3 := h2 w.length
  have h4 : w.length ≤ j + k * w.length := by have := Nat.le_mul_of_pos_left w.length hk; omega
  rw [orb_none_ge e h4] at h3; cases h3
end
end Go.PW
namespace Go.PW
variable {nx : Nat → Option Nat} {s : Nat} {w : List Nat}
/-- where the way to a ring or an end stops -/
structure Stops (nx : Nat → Option Nat) (s D : Nat) : Prop where
  lt : D ≤ 19
  before : ∀ j, j < D → ∃ i t, orb nx s j = some i ∧ nx i = some t ∧ ¬ OnR nx i
  at_ : ∃ i, orb nx s D = some i ∧ (nx i = none ∨ OnR nx i)
theorem Rho.step (h : Rho nx s w) {j : Nat} (hj : j + 1 < w.length) : ∃ i t, orb nx s j = some i ∧ nx i = some t ∧ orb nx s (j + 1) = some t := by
  have h1 := h.some_ (j := j) (by omega)
  have h2 := h.some_ hj
  refine ⟨_, _, h1, ?_, h2⟩
  have : orb nx s (j + 1) = (orb nx s j).bind nx := rfl
  rw [h1, h2] at this
  exact this.symm
theorem Rho.stops (h : Rho nx s w) : ∃ D, Stops nx s D ∧ ((orb nx s w.length = none ∧ D + 1 = w.length) ∨ (D < w.length ∧ orb nx s w.length = orb nx s D)) := by
  have hl := h.len
  have hp := h.pos
  rcases h.last with h1 | ⟨mu, hmu, h1⟩
  · refine ⟨w.length - 1, ⟨by omega, fun j hj => ?_, ?_⟩, .inl ⟨h1, by omega⟩⟩
    · obtain ⟨i, t, e1, e2, e3⟩ := h.step (j := j) (by omega)
      exact ⟨i, t, e1, e2, h.no_ring h1 e1⟩
    · refine ⟨_, h.some_ (j := w.length - 1) (by omega), .inl ?_⟩
      have h2 := h.some_ (j := w.length - 1) (by omega)
      have : orb nx s (w.length - 1 + 1) = (orb nx s (w.length - 1)).bind nx := rfl
      rw [show w.length - 1 + 1 = w.length by omega, h1, h2] at this
      exact this.symm
  · refine ⟨mu, ⟨by omega, fun j hj => ?_, ?_⟩, .inr ⟨hmu, h1⟩⟩
    · obtain ⟨i, t, e1, e2, e3⟩ := h.step (j := j) (by omega)
      exact ⟨i, t, e1, e2, fun hr => by have := (h.ring_at hmu h1 e1).1 hr; omega⟩
    · exact ⟨_, h.some_ hmu, .inr ((h.ring_at hmu h1 (h.some_ hmu)).2 (Nat.le_refl _))⟩
theorem Stops.unique {D E : Nat} (h : Stops nx s D) (k : Stops nx s E) : D = E := by
  have key : ∀ {D E : Nat}, Stops nx s D → Stops nx s E → ¬ D < E := by
    intro D E h k hlt
    obtain ⟨i, e1, e2⟩ := h.at_
    obtain ⟨i', t, e3, e4, e5⟩ := k.before D hlt
    rw [e1] at e3; cases e3
    rcases e2 with e2 | e2
    · rw [e4] at e2; cases e2
    · exact e5 e2
  have := key h k; have := key k h; omega

/-- the pointers meet after at most 19 rounds -/
theorem Rho.meets (h : Rho nx s w) : ∃ k, 1 ≤ k ∧ k ≤ 19 ∧ orb nx s k = orb nx s (2 * k) := by
  have hl := h.len
  rcases h.last with h1 | ⟨mu, hmu, h1⟩
  · exact ⟨19, by omega, by omega, by rw [orb_none_ge h1 (by omega), orb_none_ge h1 (by omega)]⟩
  · obtain ⟨lam, hlam⟩ : ∃ lam, lam = w.length - mu := ⟨_, rfl⟩
    have per : ∀ t x, mu ≤ x → orb nx s (x + lam * t) = orb nx s x := by
      intro t x hx
      induction t with
      | zero => rfl
      | succ t ih =>
        rw [Nat.mul_succ, ← Nat.add_assoc, ← ih]
        have := orb_shift (nx := nx) (s := s) h1 (x + lam * t - mu)
        rw [show w.length + (x + lam * t - mu) = x + lam * t + lam by omega, show mu + (x + lam * t - mu) = x + lam * t by omega] at this
        exact this
    have hd := Nat.div_add_mod mu lam
    have hm := Nat.mod_lt mu (show 0 < lam by omega)
    refine ⟨lam * (mu / lam + 1), ?_, ?_, ?_⟩
    · rw [Nat.mul_add]; omega
    · rw [Nat.mul_add]; omega
    · rw [Nat.two_mul, per _ _ (by rw [Nat.mul_add]; omega)]
/-- what the meeting of the two pointers is -/
def Meet (nx : Nat → Option Nat) (s : Nat) (m : Option Nat) : Prop := (m = none ∧ ∃ k, orb nx s k = none) ∨ ∃ k, 0 < k ∧ m = orb nx s k ∧ orb nx s k = orb nx s (2 * k)
/-- what the entrance of the ring is -/
def Ent (nx : Nat → Option Nat) (s : Nat) (e : Option Nat) : Prop := ∃ D, Stops nx s D ∧ ((e = none ∧ ∃ k, orb nx s k = none) ∨ (e = orb nx s D ∧ ∀ k, orb nx s k ≠ none))
theorem Rho.ends (h : Rho nx s w) {k : Nat} (hk : orb nx s k = none) : orb nx s w.length = none := by
  rcases h.last with h1 | ⟨mu, hmu, h1⟩
  · exact h1
  · obtain ⟨p, h2, h3, _⟩ := h.fold hmu h1 k
    rw [h3, h.some_ h2] at hk; cases hk
/-- the second walk of the pointers -/
theorem Rho.second (h : Rho nx s w) {m : Option Nat} (hm : Meet nx s m) : (m = none ∧ ∃ k, orb nx s k = none) ∨ ∃ k D, Stops nx s D ∧ m = orb nx s k ∧ (∀ j, j < D → orb nx s j ≠ orb nx s (k + j)) ∧ orb nx s D = orb nx s (k + D) ∧ ∀ i, orb nx s i ≠ none := by
  rcases hm with hm | ⟨k, hk, rfl, e⟩
  · exact .inl hm
  · by_cases h0 : orb nx s k = none
    · exact .inl ⟨h0, _, h0⟩
    · right
      obtain ⟨D, hD, hc⟩ := h.stops
      rcases hc with ⟨h1, h2⟩ | ⟨h1, h2⟩
      · exfalso
        have hk1 : k < w.length := Nat.lt_of_not_ge fun hge => h0 (orb_none_ge h1 hge)
        have hk2 : 2 * k < w.length := Nat.lt_of_not_ge fun hge => h0 (by rw [e]; exact orb_none_ge h1 hge)
        have := h.inj hk1 hk2 e; omega
      · have hkD : D ≤ k := by
          rcases Nat.lt_or_ge k D with hlt | hge
          · exfalso
            by_cases h3 : 2 * k < w.length
            · have := h.inj (by omega) h3 e; omega
            · exact h.later h1 h2 hlt (show D ≤ 2 * k by omega) e
          · exact hge
        refine ⟨k, D, hD, rfl, fun j hj => h.later h1 h2 hj (by omega), ?_, fun i hi => ?_⟩
        · -- some m with orb (k + m) = orb D
          obtain ⟨lam, hlam⟩ : ∃ lam, lam = w.length - D := ⟨_, rfl⟩
          have per : ∀ t x, D ≤ x → orb nx s (x + lam * t) = orb nx s x := by
            intro t x hx
            induction t with
            | zero => rfl
            | succ t ih =>
              rw [Nat.mul_succ, ← Nat.add_assoc, ← ih]
              have := orb_shift (nx := nx) (s := s) h2 (x + lam * t - D)
              rw [show w.length + (x + lam * t - D) = x + lam * t + lam by omega, show D + (x + lam * t - D) = x + lam * t by omega] at this
              exact this
          -- D + lam * k ≥ k, reached from k by m steps
          have hlk : k ≤ lam * k := Nat.le_mul_of_pos_left k (by omega)
          have e1 := per k D (Nat.le_refl _)
          have e2 := orb_shift (nx := nx) (s := s) e (D + lam * k - k)
          rw [show k + (D + lam * k - k) = D + lam * k by omega, show 2 * k + (D + lam * k - k) = k + D + lam * k by omega, e1, per k (k + D) (by omega)] at e2
          exact e2
        · have := h.ends hi
          rw [h2, h.some_ h1] at this; cases this
theorem Ent.onR (h : Rho nx s w) {e : Option Nat} (he : Ent nx s e) : e = some s ↔ OnR nx s := by
  obtain ⟨D, hD, hc⟩ := he
  rcases hc with ⟨rfl, k, hk⟩ | ⟨rfl, hall⟩
  · constructor
    · intro h; cases h
    · intro hr; exact absurd hr (h.no_ring (h.ends hk) (j := 0) rfl)
  · obtain ⟨E, hE, hc⟩ := h.stops
    rcases hc with ⟨h1, _⟩ | ⟨h1, h2⟩
    · exact absurd h1 (hall _)
    · have := hD.unique hE
      subst this
      rw [h.ring_at h1 h2 (j := 0) (i := s) rfl]
      constructor
      · intro e
        have := h.inj h1 h.pos (by rw [e]; rfl)
        omega
      · intro h0
        have : D = 0 := by omega
        subst this; rfl
/-- the entrance does not come before -/
theorem Ent.before (h : Rho nx s w) {e : Option Nat} (he : Ent nx s e) {D : Nat} (hD : Stops nx s D) : (∀ j, j < D → orb nx s j ≠ e) ∧ (orb nx s D = e ∨ ∃ i, orb nx s D = some i ∧ nx i = none) := by
  obtain ⟨E, hE, hc⟩ := he
  have := hD.unique hE
  subst this
  rcases hc with ⟨rfl, k, hk⟩ | ⟨rfl, hall⟩
  · refine ⟨fun j hj => ?_, ?_⟩
    · obtain ⟨i, t, e1, _⟩ := hD.before j hj
      rw [e1]; intro h; cases h
    · obtain ⟨i, e1, e2⟩ := hD.at_
      exact .inr ⟨i, e1, e2.resolve_right (h.no_ring (h.ends hk) e1)⟩
  · refine ⟨fun j hj e => ?_, .inl rfl⟩
    obtain ⟨i, t, e1, _, e3⟩ := hD.before j hj
    obtain ⟨i', e4, e5⟩ := hD.at_
    rw [e1, e4] at e; cases e
    rcases e5 with e5 | e5
    · exact hall (D + 1) (by simp only [orb]; rw [e4]; exact e5)
    · exact e3 e5
end Go.PW
namespace Go.PW
open Go.PM Go.RowKit Go.Lib

def spotsL : List UInt8 := [97, 98, 99, 100, 101, 102, 65, 66, 67, 48, 49, 50, 51, 52, 53, 54, 55, 56, 57]
def ch (i : Nat) : UInt8 := spotsL.getD i 0
def sn (i : Nat) : ByteArray := ⟨#[ch i]⟩
def sidx (s : ByteArray) : Nat := (indexByte spotsL (s.data.toList.headD 0)).toNat
def txt (l : List Nat) : ByteArray := ⟨(l.map ch).toArray⟩
theorem sn_nm (i : Nat) (h : i < 9) : sn i = nm i := by
  match i, h with
  | 0, _ | 1, _ | 2, _ | 3, _ | 4, _ | 5, _ | 6, _ | 7, _ | 8, _ => rfl
theorem ch_all : ∀ i, i < 19 → (indexByte spotsL (ch i)) = (i : Nat) ∧ isS (sn i) = true ∧ isP (sn i) = decide (i < 9) ∧ isD (sn i) = decide (9 ≤ i) := by
  intro i h
  rcases (show i = 0 ∨ i = 1 ∨ i = 2 ∨ i = 3 ∨ i = 4 ∨ i = 5 ∨ i = 6 ∨ i = 7 ∨ i = 8 ∨ i = 9 ∨ i = 10 ∨ i = 11 ∨ i = 12 ∨ i = 13 ∨ i = 14 ∨ i = 15 ∨ i = 16 ∨ i = 17 ∨ i = 18 by omega) with rfl | rfl | rfl | rfl | rfl | rfl | rfl | rfl | rfl | rfl | rfl | rfl | rfl | rfl | rfl | rfl | rfl | rfl | rfl <;> decide +kernel
theorem ch_inj {i j : Nat} (hi : i < 19) (hj : j < 19) (e : ch i = ch j) : i = j := by
  have h1 := (ch_all i hi).1
  have h2 := (ch_all j hj).1
  rw [e, h2] at h1; omega
theorem sn_inj {i j : Nat} (hi : i < 19) (hj : j < 19) (e : sn i = sn j) : i = j := by
  refine ch_inj hi hj ?_
  have := congrArg (fun s => s.data.toList.headD 0) e
  simpa [sn] using this
theorem sidx_sn {i : Nat} (hi : i < 19) : sidx (sn i) = i := by
  have := (ch_all i hi).1
  unfold sidx sn
  show (indexByte spotsL (ch i)).toNat = i
  rw [this]; rfl
theorem sidx_one (c : UInt8) (h : isS ⟨#[c]⟩ = true) : sidx ⟨#[c]⟩ < 19 ∧ sn (sidx ⟨#[c]⟩) = ⟨#[c]⟩ := by
  have hm : c ∈ spotsL := by
    unfold isS at h
    rw [Bool.or_eq_true] at h
    rcases h with h | h
    · have : c ∈ placesL := by simpa [isP] using h
      simp only [placesL, List.mem_cons, List.not_mem_nil, or_false] at this
      simp only [spotsL, List.mem_cons, List.not_mem_nil, or_false]
      rcases this with h | h | h | h | h | h | h | h | h <;> simp [h]
    · have : 48 ≤ c.toNat ∧ c.toNat ≤ 57 := by simpa [isD] using h
      obtain ⟨n, hn⟩ : ∃ n, c.toNat = n := ⟨_, rfl⟩
      have hc : c = UInt8.ofNat n := by rw [← hn]; simp
      subst hc
      rw [hn] at this
      have : n = 48 ∨ n = 49 ∨ n = 50 ∨ n = 51 ∨ n = 52 ∨ n = 53 ∨ n = 54 ∨ n = 55 ∨ n = 56 ∨ n = 57 := by omega
      rcases this with rfl | rfl | rfl | rfl | rfl | rfl | rfl | rfl | rfl | rfl <;> decide
  simp only [spotsL, List.mem_cons, List.not_mem_nil, or_false] at hm
  rcases hm with rfl | rfl | rfl | rfl | rfl | rfl | rfl | rfl | rfl | rfl | rfl | rfl | rfl | rfl | rfl | rfl | rfl | rfl | rfl <;> decide +kernel
theorem sidx_spec {s : ByteArray} (h : isS s = true) : sidx s < 19 ∧ sn (sidx s) = s := by
  obtain ⟨c, rfl⟩ := one_of_size (isS_size h)
  exact sidx_one c h
theorem sidx_pidx {s : ByteArray} (h : isP s = true) : sidx s = pidx s := by
  have h1 := pidx_spec h
  have h2 : isS s = true := by unfold isS; rw [h]; rfl
  have h3 := sidx_spec h2
  refine sn_inj h3.1 (by omega) ?_
  rw [h3.2, sn_nm _ h1.1, h1.2]
theorem isP_sidx {s : ByteArray} (h : isS s = true) : isP s = decide (sidx s < 9) := by
  have h1 := sidx_spec h
  have h2 := (ch_all _ h1.1).2.2.1
  rwa [h1.2] at h2
def strLen : Value → Nat
  | .string t => t.size
  | _ => 0
theorem txt_nil : txt [] = ⟨#[]⟩ := rfl
theorem txt_one (i : Nat) : txt [i] = sn i := rfl
theorem txt_append (l m : List Nat) : txt (l ++ m) = txt l ++ txt m := by
  apply ByteArray.ext
  rw [ByteArray.data_append]
  simp [txt]
theorem txt_snoc (l : List Nat) (i : Nat) : txt (l ++ [i]) = txt l ++ sn i := txt_append l [i]
theorem txt_size (l : List Nat) : (txt l).size = l.length := by simp [txt, ByteArray.size]
theorem txt_list (l : List Nat) : (txt l).data.toList = l.map ch := by simp [txt]
theorem txt_mem {l : List Nat} (hl : ∀ a ∈ l, a < 19) {i : Nat} (hi : i < 19) : ch i ∈ (txt l).data.toList ↔ i ∈ l := by
  rw [txt_list, List.mem_map]
  constructor
  · rintro ⟨j, hj, e⟩
    have := ch_inj (hl j hj) hi e
    exact this ▸ hj
  · intro h; exact ⟨i, h, rfl⟩
theorem txt_inj : ∀ {l m : List Nat}, (∀ a ∈ l, a < 19) → (∀ a ∈ m, a < 19) → txt l = txt m → l = m := by
  intro l m hl hm e
  have h : l.map ch = m.map ch := by rw [← txt_list, ← txt_list, e]
  clear e
  induction l generalizing m with
  | nil => cases m with
    | nil => rfl
    | cons b m => simp at h
  | cons a l ih => cases m with
    | nil => simp at h
    | cons b m =>
      rw [List.map_cons, List.map_cons, List.cons.injEq] at h
      have := ch_inj (hl a (by simp)) (hm b (by simp)) h.1
      rw [this, ih (fun x hx => hl x (by simp [hx])) (fun x hx => hm x (by simp [hx])) h.2]

/-- a table whose sources are places or digits -/
def SV (f : Nat → ByteArray) : Prop := ∀ p, p < 9 → isS (srcT f p) = true
theorem SV_tab {xs : List Mv} (h : MV xs) : SV (tabOf xs) := by
  intro p hp
  rw [srcM_nm h hp]
  unfold srcM
  cases hf : xs.find? (fun m => decide (m.1 = nm p)) with
  | none => show isS (nm p) = true; unfold isS; rw [isP_nm hp]; rfl
  | some m =>
    have := h.1 m (List.mem_of_find?_eq_some hf)
    unfold mok at this; rw [Bool.and_eq_true] at this
    exact this.2
/-- the spot whence the value of a place comes -/
def sx (f : Nat → ByteArray) (p : Nat) : Nat := sidx (srcT f p)
def nxT (f : Nat → ByteArray) (i : Nat) : Option Nat := if i < 9 then (if sx f i = i then none else some (sx f i)) else none
theorem sx_lt {f : Nat → ByteArray} (h : SV f) {p : Nat} (hp : p < 9) : sx f p < 19 ∧ sn (sx f p) = srcT f p := sidx_spec (h p hp)
theorem nice {f : Nat → ByteArray} (h : SV f) : Nice (nxT f) := by
  refine ⟨fun i j e => ?_, fun i e => ?_, fun i j e => ?_⟩
  all_goals
    unfold nxT at e
    by_cases h9 : i < 9
    · rw [if_pos h9] at e
      by_cases h1 : sx f i = i
      · rw [if_pos h1] at e; cases e
      · rw [if_neg h1, Option.some.injEq] at e
        first | exact h9 | exact absurd e h1 | exact e ▸ (sx_lt h h9).1
    · rw [if_neg h9] at e; cases e
theorem nxT_some {f : Nat → ByteArray} {i : Nat} (hi : i < 9) (h : sx f i ≠ i) : nxT f i = some (sx f i) := by
  unfold nxT; rw [if_pos hi, if_neg h]
theorem nxT_stay {f : Nat → ByteArray} {i : Nat} (hi : i < 9) (h : sx f i = i) : nxT f i = none := by
  unfold nxT; rw [if_pos hi, if_pos h]
theorem nxT_digit {f : Nat → ByteArray} {i : Nat} (hi : ¬ i < 9) : nxT f i = none := by
  unfold nxT; rw [if_neg hi]
theorem src_self {f : Nat → ByteArray} (h : SV f) {i : Nat} (hi : i < 9) : srcT f i = nm i ↔ sx f i = i := by
  have h1 := sx_lt h hi
  rw [← h1.2, ← sn_nm i hi]
  exact ⟨fun e => sn_inj h1.1 (by omega) e, fun e => by rw [e]⟩
end Go.PW
namespace Go.PW
open Go.PM
variable {nx : Nat → Option Nat}
theorem least_ex {P : Nat → Prop} : ∀ n, P n → ∃ m, P m ∧ ∀ k, P k → m ≤ k := by
  intro n
  induction n using Nat.strongRecOn with
  | ind n ih =>
    intro h
    by_cases h2 : ∃ m, m < n ∧ P m
    · obtain ⟨m, h3, h4⟩ := h2; exact ih m h3 h4
    · exact ⟨n, h, fun k hk => Nat.le_of_not_lt fun hlt => h2 ⟨k, hlt, hk⟩⟩
open Classical in
/-- the least number of which P holds -/
noncomputable def least (P : Nat → Prop) : Nat := if h : ∃ m, P m ∧ ∀ k, P k → m ≤ k then Classical.choose h else 0
theorem least_spec {P : Nat → Prop} (h : ∃ n, P n) : P (least P) ∧ ∀ k, P k → least P ≤ k := by
  obtain ⟨n, hn⟩ := h
  have hx := least_ex n hn
  unfold least
  rw [dif_pos hx]
  exact Classical.choose_spec hx
/-- what a walk along the way holds: the spots till i, the last of them -/
structure WayI (nx : Nat → Option Nat) (s : Nat) (acc : List Nat) (i n : Nat) : Prop extends Acc nx s acc where
  pos : 0 < acc.length
  cur : orb nx s (acc.length - 1) = some i
  way_ : way nx s = wayF nx n acc (nx i)
  len : acc.length + n = 20
theorem WayI.start (nx : Nat → Option Nat) {s : Nat} (hs : s < 19) : WayI nx s [s] s 19 := by
  refine ⟨⟨fun j h => ?_, by simp, fun a ha => ?_⟩, by simp, rfl, ?_, rfl⟩
  · have : j = 0 := by simp at h; omega
    subst this; rfl
  · simp at ha; omega
  · show wayF nx 20 [] (some s) = _
    rw [wayF_step (by simp)]; rfl
section
variable {s : Nat} {acc : List Nat} {i n : Nat}
theorem WayI.next_orb (h : WayI nx s acc i n) : orb nx s acc.length = nx i := by
  have : orb nx s (acc.length - 1 + 1) = (orb nx s (acc.length - 1)).bind nx := rfl
  rw [show acc.length - 1 + 1 = acc.length by have := h.pos; omega, h.cur] at this
  exact this
theorem WayI.mem (h : WayI nx s acc i n) : i ∈ acc := by
  have h1 := h.at_ (acc.length - 1) (by have := h.pos; omega)
  rw [h.cur] at h1
  exact List.mem_of_getElem? h1
theorem WayI.ilt (h : WayI nx s acc i n) : i < 19 := h.lt i h.mem
theorem WayI.stop (h : WayI nx s acc i n) (e : nx i = none) : way nx s = acc := by rw [h.way_, e, wayF_none]
theorem WayI.hit (h : WayI nx s acc i n) {j : Nat} (e : nx i = some j) (hm : j ∈ acc) : way nx s = acc := by rw [h.way_, e, wayF_hit hm]
theorem WayI.next (hn : Nice nx) (hs : s < 19) (h : WayI nx s acc i n) {j : Nat} (e : nx i = some j) (hm : j ∉ acc) : ∃ n', n = n' + 1 ∧ WayI nx s (acc ++ [j]) j n' := by
  have hl := h.toAcc.len
  have ho := h.next_orb
  rw [e] at ho
  obtain ⟨n', rfl⟩ : ∃ n', n = n' + 1 := ⟨n - 1, by have := h.len; omega⟩
  have h2 := h.toAcc.snoc hn hs ho hm
  have h3 := h2.len
  simp at h3
  refine ⟨n', rfl, h2, by simp, by simpa using ho, ?_, by have := h.len; simp; omega⟩
  rw [h.way_, e, wayF_step hm]
end

/-- the way as it is told by names: whence a place's value comes, itself where it stays -/
theorem way_src {f : Nat → ByteArray} (_hf : SV f) {s : Nat} {acc : List Nat} {i n : Nat} (h : WayI (nxT f) s acc i n) (hi : i < 9) (hm : sx f i ∈ acc) : way (nxT f) s = acc := by
  by_cases e : sx f i = i
  · exact h.stop (nxT_stay hi e)
  · exact h.hit (nxT_some hi e) hm
theorem way_go {f : Nat → ByteArray} (hf : SV f) {s : Nat} (hs : s < 19) {acc : List Nat} {i n : Nat} (h : WayI (nxT f) s acc i n) (hi : i < 9) (hm : sx f i ∉ acc) : ∃ n', n = n' + 1 ∧ WayI (nxT f) s (acc ++ [sx f i]) (sx f i) n' := by
  have e : sx f i ≠ i := fun e => hm (by rw [e]; exact h.mem)
  exact h.next (nice hf) hs (nxT_some hi e) hm

def onRb (nx : Nat → Option Nat) (s : Nat) : Bool := decide (orb nx s (way nx s).length = some s)
theorem onRb_iff (hn : Nice nx) {s : Nat} (hs : s < 19) : onRb nx s = true ↔ OnR nx s := by
  rw [(way_rho hn hs).onR]; simp [onRb]
/-- the ring at a spot, nothing where there is none -/
def ringL (nx : Nat → Option Nat) (s : Nat) : List Nat := if onRb nx s then way nx s else []
/-- the rings of the first k places -/
def ringsF (nx : Nat → Option Nat) : Nat → List (List Nat)
  | 0 => []
  | k + 1 => if onRb nx k = true ∧ k ∉ (ringsF nx k).flatten then ringsF nx k ++ [way nx k] else ringsF nx k
theorem ringsF_yes {k : Nat} (h1 : onRb nx k = true) (h2 : k ∉ (ringsF nx k).flatten) : ringsF nx (k + 1) = ringsF nx k ++ [way nx k] := by rw [ringsF, if_pos ⟨h1, h2⟩]
theorem ringsF_no {k : Nat} (h : ¬ (onRb nx k = true ∧ k ∉ (ringsF nx k).flatten)) : ringsF nx (k + 1) = ringsF nx k := by rw [ringsF, if_neg h]
theorem ringsF_lt (hn : Nice nx) : ∀ k, k ≤ 9 → (∀ a ∈ (ringsF nx k).flatten, a < 19) ∧ (ringsF nx k).length ≤ k ∧ (ringsF nx k).flatten.length ≤ 19 * k := by
  intro k
  induction k with
  | zero => intro _; exact ⟨by simp [ringsF], by simp [ringsF], by simp [ringsF]⟩
  | succ k ih =>
    intro hk
    obtain ⟨h1, h2, h3⟩ := ih (by omega)
    by_cases h : onRb nx k = true ∧ k ∉ (ringsF nx k).flatten
    · rw [ringsF_yes h.1 h.2]
      have hr := way_rho hn (show k < 19 by omega)
      have hl := hr.len
      refine ⟨fun a ha => ?_, by simp; omega, by simp; simp at h3; omega⟩
      simp only [List.flatten_append, List.mem_append] at ha
      rcases ha with ha | ha
      · exact h1 a ha
      · exact hr.lt a (by simpa using ha)
    · rw [ringsF_no h]; exact ⟨h1, by omega, by omega⟩
end Go.PW
namespace Go.PW
open Go.RowKit Go.PM
def spotV (b : Nat) : Option Nat → Value
  | none => .pointer none
  | some j => .pointer (some ⟨b, j * 2, none⟩)
/-- the spots lie in block b -/
structure Spots (w : World) (b : Nat) (nx : Nat → Option Nat) : Prop where
  row : ∃ t cs, At w b t cs
  name : ∀ i, i < 19 → w.cell? ⟨b, i * 2, none⟩ = some (.string (sn i))
  src : ∀ i, i < 19 → w.cell? ⟨b, i * 2 + 1, none⟩ = some (spotV b (nx i))
theorem Spots.lt {w : World} {b : Nat} {nx : Nat → Option Nat} (h : Spots w b nx) : b < w.heap.size := by
  obtain ⟨t, cs, h⟩ := h.row; exact h.lt
theorem Spots.below {w w' : World} {b : Nat} {nx : Nat → Option Nat} (h : Spots w b nx) (hb : Below w.heap.size w w') : Spots w' b nx :=
  ⟨by obtain ⟨t, cs, h⟩ := h.row; exact ⟨t, cs, h.keep hb⟩, fun i hi => (hb.cell (p := ⟨b, i * 2, none⟩) h.lt).trans (h.name i hi), fun i hi => (hb.cell (p := ⟨b, i * 2 + 1, none⟩) h.lt).trans (h.src i hi)⟩
/-- two pointers that walk: r rounds are left at most -/
def Run (ob : Nat → Option Nat) (b K : Nat) (r : Nat) (sl fa : Value) : Prop := ∃ k, k + r = K ∧ 0 < r ∧ sl = spotV b (ob k) ∧ fa = spotV b (ob (2 * k))
theorem Run.next {ob : Nat → Option Nat} {b K k : Nat} {X Y X0 Y0 : Value} (h1 : k + least (fun r => Run ob b K r X0 Y0) = K) (hk : k + 1 < K) (hX : X = spotV b (ob (k + 1))) (hY : Y = spotV b (ob (2 * (k + 1)))) :
    (∃ r, Run ob b K r X Y) ∧ least (fun r => Run ob b K r X Y) < least (fun r => Run ob b K r X0 Y0) := by
  have h : Run ob b K (K - (k + 1)) X Y := ⟨k + 1, by omega, by omega, hX, hY⟩
  refine ⟨⟨_, h⟩, ?_⟩
  have := (least_spec (P := fun r => Run ob b K r X Y) ⟨_, h⟩).2 _ h
  omega
end Go.PW
namespace Go.Proofs.YtplapaojgcloaaaGreatDoor
open Go.RowKit Go.PM Go.PW Go.Lib

theorem infoSp : (Tryz.prog.info? 130).map (fun i => (i.zero, i.size, i.bytes)) = some (some (.agg #[.string ⟨#[]⟩, .pointer none]), 2, 24) := by kernel_rfl
theorem eqlp_yes (w : World) (a : Addr) : (binOp .eql 128 (.pointer (some a)) (.pointer (some a))).run Tryz.prog w = .ok (.bool true) w := by
  obtain ⟨i0, hi0, hz0, hz1, hz2⟩ := info_parts infoSp
  exact run_eql_ptr_same w a Tryz.underlying128 hi0
theorem eqlp_no (w : World) (b : Nat) (nx : Nat → Option Nat) (hS : Spots w b nx) (i j : Nat) (h : ¬ i = j) : (binOp .eql 128 (.pointer (some ⟨b, i * 2, none⟩)) (.pointer (some ⟨b, j * 2, none⟩))).run Tryz.prog w = .ok (.bool false) w := by
  obtain ⟨i0, hi0, hz0, hz1, hz2⟩ := info_parts infoSp
  obtain ⟨t, cs, hA⟩ := hS.row
  exact run_eql_ptr_other w Tryz.underlying128 hi0 (by rw [hz1]; decide) (by intro e; injection e with _ e; omega) hA hA
theorem neqp_yes (w : World) (a : Addr) : (binOp .neq 128 (.pointer (some a)) (.pointer (some a))).run Tryz.prog w = .ok (.bool false) w := by
  have h := eqlp_yes w a
  simp only [binOp] at h ⊢
  simp only [Sem.run_bind] at h ⊢
  revert h
  cases (Op.equal 128 (.pointer (some a)) (.pointer (some a))).run Tryz.prog w <;> simp [Result.andThen]
theorem neqp_no (w : World) (b : Nat) (nx : Nat → Option Nat) (hS : Spots w b nx) (i j : Nat) (h : ¬ i = j) : (binOp .neq 128 (.pointer (some ⟨b, i * 2, none⟩)) (.pointer (some ⟨b, j * 2, none⟩))).run Tryz.prog w = .ok (.bool true) w := by
  have h := eqlp_no w b nx hS i j h
  simp only [binOp] at h ⊢
  simp only [Sem.run_bind] at h ⊢
  revert h
  cases (Op.equal 128 (.pointer (some ⟨b, i * 2, none⟩)) (.pointer (some ⟨b, j * 2, none⟩))).run Tryz.prog w <;> simp [Result.andThen]

set_option maxRecDepth 100000 in
set_option maxHeartbeats 1000000 in
theorem meeting_c (b : Nat) (nx : Nat → Option Nat) (hn : Nice nx) (s : Nat) (hs : s < 19) (w : World) (hS : Spots w b nx) :
    Calls Tryz.prog 105 #[spotV b (some s)] w fun e w' => (∃ m, e = .returned (spotV b m) ∧ Meet nx s m) ∧ Below w.heap.size w w' := by
  have hmt := (way_rho hn hs).meets
  obtain ⟨K, hK1, hK2, hK3⟩ := hmt
  have HK3 := Lib.hid hK3
  have HL := Lib.hid (fun k i (h : orb nx s k = some i) => orb_lt hn hs k i h)
  have HO := Lib.hid (show ∀ k, orb nx s (k + 1) = (orb nx s k).bind nx from fun _ => rfl)
  have HZ : Hid (orb nx s 0 = some s) := rfl
  have HG := Lib.hid (fun a b (h : orb nx s a = none) (hab : a ≤ b) => orb_none_ge h hab)
  have HM : Hid (∀ m, Meet nx s m ↔ (m = none ∧ ∃ k, orb nx s k = none) ∨ ∃ k, 0 < k ∧ m = orb nx s k ∧ orb nx s k = orb nx s (2 * k)) := fun _ => Iff.rfl
  have hbl := hS.lt
  clear hK3 hn
  generalize orb nx s = ob at *
  change Calls Tryz.prog _ #[.pointer (some ⟨b, s * 2, none⟩)] w _
  go_enter Tryz.func105, Tryz.ntmps105
  go_wp2
  go_loopw [3, 4] (fun sl fa wr => (∃ r, Run ob b K r sl fa) ∧ Below w.heap.size w wr) (fun sl fa _ => least (fun r => Run ob b K r sl fa))
  case atStart => exact ⟨⟨K, 0, by omega, by omega, by rw [HZ.out]; rfl, by rw [HZ.out]; rfl⟩, Below.refl _ _⟩
  case round =>
    obtain ⟨hru, hb⟩ := hrel
    obtain ⟨k, hk0, hk1, e3, e4⟩ := (least_spec hru).1
    clear hru
    have HK0 := Lib.hid hk0
    have hk : k < K := by omega
    clear hk0 hk1
    subst e3 e4
    have hS2 := hS.below hb
    have hbs := hb.size
    cases hfa : ob (2 * k) with
    | none =>
      have HF := Lib.hid hfa
      clear hfa
      rw [show spotV b none = .pointer none from rfl]
      go_wp2
      go_ret
      exact ⟨⟨none, rfl, (HM.out none).2 (.inl ⟨rfl, _, HF.out⟩)⟩, hb⟩
    | some j =>
      have hjl := HL.out _ _ hfa
      have hcj := hS2.src j hjl
      rw [show spotV b (some j) = .pointer (some ⟨b, j * 2, none⟩) from rfl]
      cases hj2 : nx j with
      | none =>
        have HE : Hid (ob (2 * k + 1) = none) := by show _ = _; rw [HO.out, hfa]; exact hj2
        rw [hj2, show spotV b none = .pointer none from rfl] at hcj
        clear hj2 hfa
        go_wp2
        go_ret
        exact ⟨⟨none, rfl, (HM.out none).2 (.inl ⟨rfl, _, HE.out⟩)⟩, hb⟩
      | some j2 =>
        rw [hj2, show spotV b (some j2) = .pointer (some ⟨b, j2 * 2, none⟩) from rfl] at hcj
        have h21 : ob (2 * k + 1) = some j2 := by rw [HO.out, hfa]; exact hj2
        have h22 : ob (2 * (k + 1)) = nx j2 := by rw [show 2 * (k + 1) = 2 * k + 1 + 1 by omega, HO.out, h21]; rfl
        have hl2 := HL.out _ _ h21
        have hc2 := hS2.src j2 hl2
        cases hsl : ob k with
        | none => rw [HG.out _ _ hsl (show k ≤ 2 * k by omega)] at hfa; cases hfa
        | some i =>
          have hil := HL.out _ _ hsl
          have hci := hS2.src i hil
          have h11 : ob (k + 1) = nx i := by rw [HO.out, hsl]; rfl
          rw [show spotV b (some i) = .pointer (some ⟨b, i * 2, none⟩) from rfl]
          have HK1 : Hid (k + least (fun r => Run ob b K r (.pointer (some ⟨b, i * 2, none⟩)) (.pointer (some ⟨b, j * 2, none⟩))) = K) := by
            have h0 := HK0.out
            rw [hsl, hfa] at h0
            exact h0
          have H22 := Lib.hid h22
          have H11 := Lib.hid h11
          clear hj2 hfa h22 h11 hsl h21
          generalize nx j2 = f2 at *
          generalize nx i = s2 at *
          go_wp2
          have cx1 : ∀ x : Ext w.heap.size wr, x.val.cell? ⟨b, i * 2 + 1, none⟩ = some (spotV b s2) := fun x => (x.property.cell (p := ⟨b, i * 2 + 1, none⟩) hbl).trans hci
          have cx2 : ∀ x : Ext w.heap.size wr, x.val.cell? ⟨b, j * 2 + 1, none⟩ = some (.pointer (some ⟨b, j2 * 2, none⟩)) := fun x => (x.property.cell (p := ⟨b, j * 2 + 1, none⟩) hbl).trans hcj
          have cx3 : ∀ x : Ext w.heap.size wr, x.val.cell? ⟨b, j2 * 2 + 1, none⟩ = some (spotV b f2) := fun x => (x.property.cell (p := ⟨b, j2 * 2 + 1, none⟩) hbl).trans hc2
          refine wp_region_ext w.heap.size (by kernel_rfl) (by kernel_rfl) ?_
          repeat (go_big_quiet_step (fail))
          refine wpQuiet_nil ?_
          intro w2 hw'
          obtain ⟨xw, hxw⟩ := hw'
          have hb2 := xw.property
          rw [← hxw] at hb2
          clear hxw xw cx1 cx2 cx3 hcj hc2 hci
          have hbw := hb.trans hb2
          have HEQ : Hid (s2 = f2 → Meet nx s s2) := fun e => (HM.out s2).2 (.inr ⟨k + 1, by omega, H11.out.symm, by rw [H11.out, H22.out, e]⟩)
          have HNE : Hid (s2 ≠ f2 → k + 1 < K) := by
            intro e
            rcases Nat.lt_or_ge (k + 1) K with h1 | h1
            · exact h1
            · exfalso
              have : k + 1 = K := by omega
              have h2 := HK3.out
              rw [← this, H11.out, H22.out] at h2
              exact e h2
          have HNX : Hid (s2 = ob (k + 1) ∧ f2 = ob (2 * (k + 1))) := ⟨H11.out.symm, H22.out.symm⟩
          clear H11 H22
          cases s2 with
          | none =>
            cases f2 with
            | none =>
              have HT := Lib.hid (HEQ.out rfl)
              rw [show spotV b none = .pointer none from rfl]
              go_wp2
              go_ret
              exact ⟨⟨none, rfl, HT.out⟩, hbw⟩
            | some j3 =>
              exfalso
              have h1 := HG.out _ _ HNX.out.1.symm (show k + 1 ≤ 2 * (k + 1) by omega)
              rw [← HNX.out.2] at h1; cases h1
          | some i2 =>
            cases f2 with
            | none =>
              have hk2 := HNE.out (by intro h; cases h)
              rw [show spotV b none = .pointer none from rfl, show spotV b (some i2) = .pointer (some ⟨b, i2 * 2, none⟩) from rfl]
              have HFIN := Lib.hid (Run.next (X := .pointer (some ⟨b, i2 * 2, none⟩)) (Y := .pointer none) HK1.out hk2 (by rw [← HNX.out.1]; rfl) (by rw [← HNX.out.2]; rfl))
              go_wp2
              go_roundw
              case rel => exact ⟨HFIN.out.1, hbw⟩
              case measure => exact HFIN.out.2
            | some j3 =>
              rw [show spotV b (some j3) = .pointer (some ⟨b, j3 * 2, none⟩) from rfl, show spotV b (some i2) = .pointer (some ⟨b, i2 * 2, none⟩) from rfl]
              by_cases e : i2 = j3
              · subst e
                have hq := eqlp_yes w2 ⟨b, i2 * 2, none⟩
                have HT := Lib.hid (HEQ.out rfl)
                go_wp2
                go_ret
                exact ⟨⟨some i2, rfl, HT.out⟩, hbw⟩
              · have hk2 := HNE.out (fun h => e (Option.some.inj h))
                have hq := eqlp_no w2 b nx (hS.below hbw) i2 j3 e
                have HFIN := Lib.hid (Run.next (X := .pointer (some ⟨b, i2 * 2, none⟩)) (Y := .pointer (some ⟨b, j3 * 2, none⟩)) HK1.out hk2 (by rw [← HNX.out.1]; rfl) (by rw [← HNX.out.2]; rfl))
                go_wp2
                go_roundw
                case rel => exact ⟨HFIN.out.1, hbw⟩
                case measure => exact HFIN.out.2
end Go.Proofs.YtplapaojgcloaaaGreatDoor
namespace Go.PW
open Go.RowKit Go.PM
/-- two pointers that walk side by side: r rounds are left -/
def Run2 (ob : Nat → Option Nat) (b k D : Nat) (r : Nat) (x y : Value) : Prop := ∃ j, j + r = D ∧ x = spotV b (ob j) ∧ y = spotV b (ob (k + j))
theorem Run2.next {ob : Nat → Option Nat} {b k D j : Nat} {X Y X0 Y0 : Value} (h1 : j + least (fun r => Run2 ob b k D r X0 Y0) = D) (hk : j < D) (hX : X = spotV b (ob (j + 1))) (hY : Y = spotV b (ob (k + (j + 1)))) :
    (∃ r, Run2 ob b k D r X Y) ∧ least (fun r => Run2 ob b k D r X Y) < least (fun r => Run2 ob b k D r X0 Y0) := by
  have h : Run2 ob b k D (D - (j + 1)) X Y := ⟨j + 1, by omega, hX, hY⟩
  refine ⟨⟨_, h⟩, ?_⟩
  have := (least_spec (P := fun r => Run2 ob b k D r X Y) ⟨_, h⟩).2 _ h
  omega
/-- one pointer that walks, and a counter -/
def Run1 (ob : Nat → Option Nat) (b D : Nat) (r : Nat) (x : Value) (n : Value) : Prop := ∃ j : Nat, j + r = D ∧ x = spotV b (ob j) ∧ n = .int .i64 j
end Go.PW
namespace Go.Proofs.YtplapaojgcloaaaGreatDoor
open Go.RowKit Go.PM Go.PW Go.Lib

set_option maxRecDepth 100000 in
set_option maxHeartbeats 1000000 in
theorem entrance_c (b : Nat) (nx : Nat → Option Nat) (hn : Nice nx) (s : Nat) (hs : s < 19) (w : World) (hS : Spots w b nx) :
    Calls Tryz.prog 93 #[spotV b (some s)] w fun e w' => (∃ m, e = .returned (spotV b m) ∧ Ent nx s m) ∧ Below w.heap.size w w' := by
  have hrho := way_rho hn hs
  have HSec := Lib.hid (fun m (h : Meet nx s m) => hrho.second h)
  obtain ⟨D0, hD0, _⟩ := hrho.stops
  have HEn : Hid (∀ k, orb nx s k = none → Ent nx s none) := fun k hk => ⟨D0, hD0, .inl ⟨rfl, k, hk⟩⟩
  have HEs : Hid (∀ D, Stops nx s D → (∀ i, orb nx s i ≠ none) → Ent nx s (orb nx s D)) := fun D hD h => ⟨D, hD, .inr ⟨rfl, h⟩⟩
  have HL := Lib.hid (fun k i (h : orb nx s k = some i) => orb_lt hn hs k i h)
  have HO := Lib.hid (show ∀ k, orb nx s (k + 1) = (orb nx s k).bind nx from fun _ => rfl)
  have HZ : Hid (orb nx s 0 = some s) := rfl
  have hbl := hS.lt
  have HMT := Lib.hid (meeting_c b nx hn s hs w hS)
  clear hrho hD0 hn
  change Calls Tryz.prog _ #[.pointer (some ⟨b, s * 2, none⟩)] w _
  go_enter Tryz.func93, Tryz.ntmps93
  go_wp2_with fail
  refine HMT.out.mono ?_
  rintro e w1 ⟨⟨m, rfl, hm⟩, hb1⟩
  have hS1 := hS.below hb1
  have hs1 := hb1.size
  rcases HSec.out m hm with ⟨rfl, k, hk⟩ | ⟨k, D, hD, rfl, hne, heq, hall⟩
  · have HF := Lib.hid (HEn.out k hk)
    clear hm hk
    rw [show spotV b none = .pointer none from rfl]
    go_wp2
    refine wp_loop_rounds 1 ?_
    rw [rounds_succ]
    go_wp2
    go_ret
    exact ⟨⟨none, rfl, HF.out⟩, hb1⟩
  · have HF := Lib.hid (HEs.out D hD hall)
    have HNE := Lib.hid hne
    have HEQ := Lib.hid heq
    have HA := Lib.hid hall
    clear hm hD hne heq hall HEn HEs HSec HMT
    generalize orb nx s = ob at *
    go_wp2
    go_loopw [3, 4] (fun x y wr => (∃ r, Run2 ob b k D r x y) ∧ Below w.heap.size w wr) (fun x y _ => least (fun r => Run2 ob b k D r x y))
    case atStart => exact ⟨⟨D, 0, by omega, by rw [HZ.out]; rfl, rfl⟩, hb1⟩
    case round =>
      obtain ⟨hru, hb⟩ := hrel
      obtain ⟨j, hk0, e3, e4⟩ := (least_spec hru).1
      clear hru
      have HK0 := Lib.hid hk0
      have hk : j ≤ D := by omega
      clear hk0
      subst e3 e4
      have hS2 := hS.below hb
      have hbs := hb.size
      cases hx : ob j with
      | none => exact absurd hx (HA.out _)
      | some x =>
        cases hy : ob (k + j) with
        | none => exact absurd hy (HA.out _)
        | some y =>
          rw [show spotV b (some x) = .pointer (some ⟨b, x * 2, none⟩) from rfl, show spotV b (some y) = .pointer (some ⟨b, y * 2, none⟩) from rfl]
          have HK1 : Hid (j + least (fun r => Run2 ob b k D r (.pointer (some ⟨b, x * 2, none⟩)) (.pointer (some ⟨b, y * 2, none⟩))) = D) := by
            have h0 := HK0.out
            rw [hx, hy] at h0
            exact h0
          by_cases hj : j = D
          · have e : x = y := by
              have h := HEQ.out
              rw [← hj, hx, hy] at h
              exact Option.some.inj h
            subst e
            have HR : Hid (ob D = some x) := by show _ = _; rw [← hj]; exact hx
            have hq := neqp_yes wr ⟨b, x * 2, none⟩
            clear hx hy hj HK0 HK1
            go_wp2
            go_ret
            exact ⟨⟨some x, rfl, by rw [← HR.out]; exact HF.out⟩, hb⟩
          · have hjD : j < D := by omega
            have e : ¬ x = y := fun e => HNE.out j hjD (by rw [hx, hy, e])
            have hq := neqp_no wr b nx hS2 x y e
            have hxl := HL.out _ _ hx
            have hyl := HL.out _ _ hy
            have hcx := hS2.src x hxl
            have hcy := hS2.src y hyl
            have h1 : ob (j + 1) = nx x := by rw [HO.out, hx]; rfl
            have h2 : ob (k + (j + 1)) = nx y := by rw [← Nat.add_assoc, HO.out, hy]; rfl
            have HFIN := Lib.hid (Run2.next (X := spotV b (nx x)) (Y := spotV b (nx y)) HK1.out hjD (by rw [h1]) (by rw [h2]))
            clear hx hy h1 h2 HK0 HK1
            generalize nx x = x2 at *
            generalize nx y = y2 at *
            go_wp2
            have cx1 : ∀ x_1 : Ext w.heap.size wr, x_1.val.cell? ⟨b, x * 2 + 1, none⟩ = some (spotV b x2) := fun x_1 => (x_1.property.cell (p := ⟨b, x * 2 + 1, none⟩) hbl).trans hcx
            have cx2 : ∀ x_1 : Ext w.heap.size wr, x_1.val.cell? ⟨b, y * 2 + 1, none⟩ = some (spotV b y2) := fun x_1 => (x_1.property.cell (p := ⟨b, y * 2 + 1, none⟩) hbl).trans hcy
            refine wp_region_ext w.heap.size (by kernel_rfl) (by kernel_rfl) ?_
            repeat (go_big_quiet_step (fail))
            refine wpQuiet_nil ?_
            intro w2 hw'
            obtain ⟨xw, hxw⟩ := hw'
            have hb2 := xw.property
            rw [← hxw] at hb2
            clear hxw xw cx1 cx2 hcx hcy hq
            have hbw := hb.trans hb2
            go_wp2
            go_roundw
            case rel => exact ⟨HFIN.out.1, hbw⟩
            case measure => exact HFIN.out.2
end Go.Proofs.YtplapaojgcloaaaGreatDoor
namespace Go.Proofs.YtplapaojgcloaaaGreatDoor
open Go.RowKit Go.PM Go.PW Go.Lib

set_option maxRecDepth 100000 in
set_option maxHeartbeats 1000000 in
theorem wayBack_c (b : Nat) (nx : Nat → Option Nat) (hn : Nice nx) (s : Nat) (hs : s < 19) (w : World) (hS : Spots w b nx) :
    Calls Tryz.prog 94 #[spotV b (some s)] w fun e w' => e = .returned (.string (txt (way nx s))) ∧ Below w.heap.size w w' := by
  have HZ : Hid (way nx s = wayF nx 20 [] (some s)) := rfl
  have HO := Lib.hid (show ∀ k, orb nx s (k + 1) = (orb nx s k).bind nx from fun _ => rfl)
  have HSN := Lib.hid (fun acc i (h : Acc nx s acc) (hi : orb nx s acc.length = some i) hm => h.snoc hn hs hi hm)
  have HST := Lib.hid (fun n acc i (hm : i ∉ acc) => wayF_step (nx := nx) (n := n) hm)
  have HHT := Lib.hid (fun n acc i (hm : i ∈ acc) => wayF_hit (nx := nx) (n := n) hm)
  have HNO := Lib.hid (fun n acc => wayF_none (nx := nx) (n := n) (acc := acc))
  have HL := Lib.hid (fun k i (h : orb nx s k = some i) => orb_lt hn hs k i h)
  have HAN := Lib.hid (Acc.nil (nx := nx) s)
  have HORB0 : Hid (orb nx s 0 = some s) := rfl
  have hbl := hS.lt
  have hcon : ∀ (t : ByteArray) c (W : World), Calls Tryz.prog 65 #[.string t, .string ⟨#[c]⟩] W fun e w' => e = .returned (.bool (decide (c ∈ t.data.toList))) ∧ W = w' := fun t c W =>
    (Tryz.strings_Contains_one t c W).mono fun _ _ ⟨e1, e2⟩ => ⟨by
      rw [e1]; congr 2; simp only [indexByte_mem], e2.symm⟩
  have HC := Lib.hid hcon
  clear hcon hn
  change Calls Tryz.prog _ #[.pointer (some ⟨b, s * 2, none⟩)] w _
  go_enter Tryz.func94, Tryz.ntmps94
  go_wp2
  go_loopw [3, 4] (fun o x wr => ∃ (acc : List Nat) (n : Nat) (c : Option Nat), o = .string (txt acc) ∧ x = spotV b c ∧ acc.length + n = 20 ∧ Hid (Acc nx s acc ∧ orb nx s acc.length = c ∧ way nx s = wayF nx n acc c) ∧ Below w.heap.size w wr) (fun o _ _ => 20 - strLen o)
  case atStart => exact ⟨[], 20, some s, rfl, rfl, rfl, ⟨HAN.out, HORB0.out, HZ.out⟩, Below.refl _ _⟩
  case round =>
    obtain ⟨acc, n, c, rfl, rfl, hn20, hA, hb⟩ := hrel
    have hbs := hb.size
    have hS2 := hS.below hb
    have hal := hA.out.1.len
    have hz := txt_size acc
    cases c with
    | none =>
      have HF : Hid (way nx s = acc) := by show _ = _; rw [hA.out.2.2]; exact HNO.out n acc
      rw [show spotV b none = .pointer none from rfl]
      clear hA
      go_wp2
      go_ret
      exact ⟨by rw [HF.out]; rfl, hb⟩
    | some i =>
      have hil := HL.out _ _ hA.out.2.1
      have hcn := hS2.name i hil
      have hcs := hS2.src i hil
      have hone : sn i = ⟨#[ch i]⟩ := rfl
      rw [hone] at hcn
      have HM := Lib.hid (txt_mem hA.out.1.lt hil)
      have HTS := Lib.hid (txt_snoc acc i)
      have hcc := fun W => HC.out (txt acc) (ch i) W
      have HONE := Lib.hid hone
      clear hone
      rw [show spotV b (some i) = .pointer (some ⟨b, i * 2, none⟩) from rfl]
      have hc1 : (⟨#[ch i]⟩ : ByteArray).size = 1 := rfl
      by_cases hin : i ∈ acc
      · have HF : Hid (way nx s = acc) := by show _ = _; rw [hA.out.2.2]; exact HHT.out n acc i hin
        have hd : decide (ch i ∈ (txt acc).data.toList) = true := by simpa using HM.out.2 hin
        rw [hd] at hcc
        have HCC := Lib.hid hcc
        clear hcc hd hA HM hin
        generalize ch i = c at *
        go_wp2_with (go_at_call 65; refine (HCC.out _).mono ?_; rintro e w' ⟨rfl, rfl⟩)
        go_ret
        exact ⟨by rw [HF.out]; rfl, hb⟩
      · obtain ⟨n', rfl⟩ : ∃ n', n = n' + 1 := ⟨n - 1, by omega⟩
        have hd : decide (ch i ∈ (txt acc).data.toList) = false := by simpa using fun h => hin (HM.out.1 h)
        rw [hd] at hcc
        have HCC := Lib.hid hcc
        have HN : Hid (Acc nx s (acc ++ [i]) ∧ orb nx s (acc ++ [i]).length = nx i ∧ way nx s = wayF nx n' (acc ++ [i]) (nx i)) := by
          refine ⟨HSN.out acc i hA.out.1 hA.out.2.1 hin, ?_, ?_⟩
          · rw [show (acc ++ [i]).length = acc.length + 1 by simp, HO.out, hA.out.2.1]; rfl
          · rw [hA.out.2.2, HST.out _ _ _ hin]
        clear hcc hd hA HM hin
        generalize ch i = c at *
        generalize nx i = ni at *
        go_wp2_with (go_at_call 65; refine (HCC.out _).mono ?_; rintro e w' ⟨rfl, rfl⟩)
        go_roundw
        case rel => exact ⟨acc ++ [i], n', ni, by rw [HTS.out, HONE.out], rfl, by simp; omega, HN, hb⟩
        case measure => simp [strLen, ByteArray.size_append, hc1, hz]; omega
end Go.Proofs.YtplapaojgcloaaaGreatDoor
namespace Go.PW
open Go.RowKit Go.PM
/-- the cells of the spots: names and sources -/
def spA (n : Nat → ByteArray) (s : Nat → Value) : Array Value := Array.ofFn (n := 38) fun j => if j.val % 2 = 0 then .string (n (j.val / 2)) else s (j.val / 2)
theorem spA_size (n : Nat → ByteArray) (s : Nat → Value) : (spA n s).size = 38 := by simp [spA]
theorem spA_name (n : Nat → ByteArray) (s : Nat → Value) (i : Nat) (hi : i < 19) : (spA n s)[i * 2]? = some (.string (n i)) := by
  have h : i * 2 < 38 := by omega
  simp [spA, h]
theorem spA_src (n : Nat → ByteArray) (s : Nat → Value) (i : Nat) (hi : i < 19) : (spA n s)[i * 2 + 1]? = some (s i) := by
  have h : i * 2 + 1 < 38 := by omega
  have h2 : ¬ (i * 2 + 1) % 2 = 0 := by omega
  have h3 : (i * 2 + 1) / 2 = i := by omega
  simp [spA, h, h3]
theorem spA_setName (n : Nat → ByteArray) (s : Nat → Value) (i : Nat) (_hi : i < 19) (x : ByteArray) : (spA n s).setIfInBounds (i * 2) (.string x) = spA (upd n i x) s := by
  apply Array.ext
  · simp [spA]
  · intro j h1 h2
    rw [Array.getElem_setIfInBounds (by simpa [spA] using h2)]
    simp only [spA, Array.getElem_ofFn, upd]
    by_cases e : i * 2 = j
    · subst e
      simp
    · by_cases e2 : j % 2 = 0
      · have : ¬ j / 2 = i := by omega
        simp [e, e2, this]
      · simp [e, e2]
theorem spA_setSrc (n : Nat → ByteArray) (s : Nat → Value) (i : Nat) (_hi : i < 19) (x : Value) : (spA n s).setIfInBounds (i * 2 + 1) x = spA n (fun q => if q = i then x else s q) := by
  apply Array.ext
  · simp [spA]
  · intro j h1 h2
    rw [Array.getElem_setIfInBounds (by simpa [spA] using h2)]
    simp only [spA, Array.getElem_ofFn]
    by_cases e : i * 2 + 1 = j
    · subst e
      have h2 : ¬ (i * 2 + 1) % 2 = 0 := by omega
      have h3 : (i * 2 + 1) / 2 = i := by omega
      simp [h3]
    · by_cases e2 : j % 2 = 0
      · simp [e, e2]
      · have : ¬ j / 2 = i := by omega
        simp [e, e2, this]
abbrev zS : Array Value := #[.string ⟨#[]⟩, .pointer none, .string ⟨#[]⟩, .pointer none, .string ⟨#[]⟩, .pointer none, .string ⟨#[]⟩, .pointer none, .string ⟨#[]⟩, .pointer none, .string ⟨#[]⟩, .pointer none, .string ⟨#[]⟩, .pointer none, .string ⟨#[]⟩, .pointer none, .string ⟨#[]⟩, .pointer none, .string ⟨#[]⟩, .pointer none, .string ⟨#[]⟩, .pointer none, .string ⟨#[]⟩, .pointer none, .string ⟨#[]⟩, .pointer none, .string ⟨#[]⟩, .pointer none, .string ⟨#[]⟩, .pointer none, .string ⟨#[]⟩, .pointer none, .string ⟨#[]⟩, .pointer none, .string ⟨#[]⟩, .pointer none, .string ⟨#[]⟩, .pointer none]
theorem zS_eq : zS = spA (fun _ => emp) (fun _ => .pointer none) := rfl
/-- the first k names are laid -/
def nmK (k : Nat) : Nat → ByteArray := fun i => if i < k then sn i else emp
theorem nmK_zero : nmK 0 = fun _ => emp := by funext i; simp [nmK]
theorem nmK_succ (k : Nat) : upd (nmK k) k (sn k) = nmK (k + 1) := by
  funext i
  unfold upd nmK
  by_cases h : i = k
  · subst h; simp
  · by_cases h2 : i < k
    · simp [h, h2, Nat.lt_succ_of_lt h2]
    · have : ¬ i < k + 1 := by omega
      simp [h, h2, this]
/-- the first k sources are laid -/
def srcK (f : Nat → ByteArray) (b k : Nat) : Nat → Value := fun i => if i < k then spotV b (nxT f i) else .pointer none
theorem srcK_zero (f : Nat → ByteArray) (b : Nat) : srcK f b 0 = fun _ => .pointer none := by funext i; simp [srcK]
theorem srcK_succ (f : Nat → ByteArray) (b k : Nat) : (fun q => if q = k then spotV b (nxT f k) else srcK f b k q) = srcK f b (k + 1) := by
  funext i
  unfold srcK
  by_cases h : i = k
  · subst h; simp
  · by_cases h2 : i < k
    · simp [h, h2, Nat.lt_succ_of_lt h2]
    · have : ¬ i < k + 1 := by omega
      simp [h, h2, this]
theorem srcK_same (f : Nat → ByteArray) (b k : Nat) (h : nxT f k = none) : srcK f b k = srcK f b (k + 1) := by
  rw [← srcK_succ, h]
  funext i
  by_cases h : i = k
  · subst h; simp [srcK, spotV]
  · simp [h]
end Go.PW
namespace Go.Proofs.YtplapaojgcloaaaGreatDoor
open Go.RowKit Go.PM Go.PW Go.Lib
attribute [local go_sem] Oper.semAt_some

set_option maxRecDepth 100000 in
set_option maxHeartbeats 800000 in
theorem spotsOf_c (f : Nat → ByteArray) (hf : SV f) (w : World) :
    Calls Tryz.prog 70 #[tabX f] w fun e w' => (∃ b, e = .returned (.pointer (some ⟨b, 0, none⟩)) ∧ w.heap.size ≤ b ∧ Spots w' b (nxT f)) ∧ Below w.heap.size w w' := by
  have HEX : Hid (∀ q, q < 19 → (ByteArray.mk #[97, 98, 99, 100, 101, 102, 65, 66, 67, 48, 49, 50, 51, 52, 53, 54, 55, 56, 57]).extract q (q+1) = sn q) := by
    show ∀ q, _
    intro q hq
    rw [extract_one _ _ (by show q < 19; exact hq)]; rfl
  refine (callsIn_wide (n := 5)).1 ?_
  refine callsIn_of_wp_marks Tryz.func70 rfl trivial ?_ rfl
  simp only [Tryz.ntmps70, List.size_toArray, List.length_cons, List.length_nil, Nat.reduceAdd, Nat.reduceSub, Array.replicate_succ, Array.replicate_zero, List.push_toArray, List.append_toArray, List.nil_append, List.cons_append]
  gi_wp2
  gi_loopw [4, 10] (fun _ i wr => ∃ k : Nat, k ≤ 19 ∧ i = .int .i64 k ∧ At wr w.heap.size 53 (tabA f) ∧ At wr (w.heap.size + 1) 132 (spA (nmK k) (fun _ => .pointer none)) ∧ At wr (w.heap.size + 2) 108 #[.pointer (some ⟨w.heap.size + 1, 0, none⟩)] ∧ Below w.heap.size w wr) (fun _ i _ => 19 - (RowKit.intOf i).toNat)
  case atStart =>
    refine ⟨0, by omega, rfl, ?_, ?_, ?_, by (repeat' (first | (with_reducible exact Below.refl _ _) | (with_reducible assumption) | (with_reducible refine Below.alloc ?_ ?_ _) | (with_reducible refine Below.drew ?_) | (with_reducible refine Below.setCell ?_ ?_ _) | (with_reducible exact Nat.le_refl _) | omega | ((repeat (first | rewrite [World.size_alloc] | rewrite [World.size_setCell] | rewrite [World.size_drew])); omega) | (simp; omega) | (simp; done)))⟩
    · exact ((At.new _ _ _).alloc _).alloc _
    · rw [nmK_zero, ← zS_eq]
      have := At.new (w.alloc (.cells (tabA f) 53)) 132 zS
      rw [World.size_alloc] at this
      exact this.alloc _
    · have := At.new ((w.alloc (.cells (tabA f) 53)).alloc (.cells zS 132)) 108 #[.pointer (some ⟨w.heap.size + 1, 0, none⟩)]
      rw [World.size_alloc, World.size_alloc] at this
      exact this
  case round =>
    obtain ⟨k, hk, rfl, h1, h2, h3, hb⟩ := hrel
    have hbs := hb.size
    by_cases hlt : k < 19
    · have hc3 : wr.drew.cell? ⟨w.heap.size + 2, 0, none⟩ = some (.pointer (some ⟨w.heap.size + 1, 0, none⟩)) := h3.cell 0
      have hl2 := h2.lt
      have hc2 : wr.drew.cell? ⟨w.heap.size + 1, k * 2, none⟩ = some (.string (nmK k k)) := (h2.cell (k * 2)).trans (spA_name _ _ k hlt)
      have hf2 : wr.drew.frozen? ⟨w.heap.size + 1, k * 2, none⟩ = false := h2.frozen (k * 2)
      have hex := HEX.out k hlt
      have HSET := Lib.hid (spA_setName (nmK k) (fun _ => .pointer none) k hlt (sn k))
      have i0 : (0 : Int) ≤ (k : Int) := by omega
      have i1 : (k : Int) < 19 := by omega
      gi_wp2
      refine regionIn_tail (F := Fence.wide) (C := fun w' => w' = wr.drew) 9 rfl (by kernel_rfl) (by kernel_rfl) rfl ?_
      simp only [List.take_succ_cons, List.take_zero, List.drop_succ_cons, List.drop_zero]
      repeat (gi_big_quiet_step (fail))
      refine wpQuietIn_nil ?_
      intro w' hw'
      subst hw'
      have d1 := h1.far (p := ⟨w.heap.size + 1, k * 2, none⟩) (by simp) (.string (sn k))
      have d2 := h2.set (k * 2) (.string (sn k))
      have d3 := h3.far (p := ⟨w.heap.size + 1, k * 2, none⟩) (by simp) (.string (sn k))
      rw [HSET.out, nmK_succ] at d2
      clear h1 h2 h3
      gi_wp2
      go_roundw
      case rel => exact ⟨k + 1, by omega, by go_num, d1, d2, d3, by (repeat' (first | (with_reducible exact Below.refl _ _) | (with_reducible assumption) | (with_reducible refine Below.alloc ?_ ?_ _) | (with_reducible refine Below.drew ?_) | (with_reducible refine Below.setCell ?_ ?_ _) | (with_reducible exact Nat.le_refl _) | omega | ((repeat (first | rewrite [World.size_alloc] | rewrite [World.size_setCell] | rewrite [World.size_drew])); omega) | (simp; omega) | (simp; done)))⟩
      case measure => simp [RowKit.intOf]; omega
    · have hk19 : k = 19 := by omega
      have HNE := Lib.hid (fun p (hp : p < 9) => sx_lt hf hp)
      rw [hk19] at h2
      have HK := Lib.hid hk19
      clear hk19
      have hs1 := h1.lt
      have hs2 := h2.lt
      have hs3 := h3.lt
      gi_wp2
      refine range_law (F := Fence.wide) (gf := 58) (lf := #[.int .i64 9]) (lb := #[]) rfl (by decide) rfl trivial (fun args w => rfl) (encs := fun p : Nat => #[.int .i64 p]) (xs := List.range 9)
        (below_iter _ _ trivial rfl (by decide)) (fun _ => rfl)
        (fun pre W => At W w.heap.size 53 (tabA f) ∧ At W (w.heap.size + 1) 132 (spA (nmK 19) (srcK f (w.heap.size + 1) pre.length)) ∧ At W (w.heap.size + 2) 108 #[.pointer (some ⟨w.heap.size + 1, 0, none⟩)] ∧ Below w.heap.size w W)
        (fun _ _ _ => False) ?own (fun _ => ownFrom_pure _ _) ?start ?a1 ?assign ?body ?done ?stop
      case own =>
        rintro s A A' row ⟨q1, q2, q3, q4⟩ hg hr
        have hr' : ∀ r, row = some r → w.heap.size + 3 ≤ r := fun r e => by have := (hr r e).1; omega
        refine ⟨(hg.block _ q1.lt (fun e => ?_)).trans q1, (hg.block _ q2.lt (fun e => ?_)).trans q2, (hg.block _ q3.lt (fun e => ?_)).trans q3, q4.trans (below_grown hg q4.size (fun g e => ?_))⟩
        · have := hr' _ e.symm; omega
        · have := hr' _ e.symm; omega
        · have := hr' _ e.symm; omega
        · have := hr' _ e; omega
      case start => exact ⟨h1, by rw [List.length_nil, srcK_zero]; exact h2, h3, hb⟩
      case assign =>
        intro l p W Kc hK
        gi_wp2
        exact hK
      case body =>
        rintro l pre p W ⟨q1, q2, q3, q4⟩ hp hsz
        obtain ⟨hl, hp9⟩ := pre_len pre p hp
        rw [hl] at q2
        have HL : Hid ((pre ++ [p]).length = p + 1) := by show _ = _; simp [hl]
        have HSRC := Lib.hid (fun W => source_c f p hp9 W)
        have hsx := (HNE.out p hp9).1
        have HSN : Hid (srcT f p = sn (sx f p)) := (HNE.out p hp9).2.symm
        have HNM : Hid (nm p = sn p) := (sn_nm p hp9).symm
        have HYES := Lib.hid (nxT_some (f := f) hp9)
        have HSTAY := Lib.hid (nxT_stay (f := f) hp9)
        have HS1 := Lib.hid (srcK_succ f (w.heap.size + 1) p)
        have HS2 := Lib.hid (srcK_same f (w.heap.size + 1) p)
        have HSET := Lib.hid (spA_setSrc (nmK 19) (srcK f (w.heap.size + 1) p) p (by omega))
        have hpos := fun W => positionIn_yes ⟨#[97, 98, 99, 100, 101, 102, 65, 66, 67, 48, 49, 50, 51, 52, 53, 54, 55, 56, 57]⟩ (ch (sx f p)) (sx f p) (ch_all _ hsx).1 W
        have HPOS := Lib.hid hpos
        have c0 : W.cell? ⟨w.heap.size, 0, none⟩ = some (.string (f 0)) := q1.cell 0
        have c1 : W.cell? ⟨w.heap.size, 1, none⟩ = some (.string (f 1)) := q1.cell 1
        have c2 : W.cell? ⟨w.heap.size, 2, none⟩ = some (.string (f 2)) := q1.cell 2
        have c3 : W.cell? ⟨w.heap.size, 3, none⟩ = some (.string (f 3)) := q1.cell 3
        have c4 : W.cell? ⟨w.heap.size, 4, none⟩ = some (.string (f 4)) := q1.cell 4
        have c5 : W.cell? ⟨w.heap.size, 5, none⟩ = some (.string (f 5)) := q1.cell 5
        have c6 : W.cell? ⟨w.heap.size, 6, none⟩ = some (.string (f 6)) := q1.cell 6
        have c7 : W.cell? ⟨w.heap.size, 7, none⟩ = some (.string (f 7)) := q1.cell 7
        have c8 : W.cell? ⟨w.heap.size, 8, none⟩ = some (.string (f 8)) := q1.cell 8
        clear hpos hl hf
        gi_wp2
        refine ⟨trivial, ?_⟩
        refine CallsIn.inRound l (callsIn_wide.2 ((HSRC.out W).mono ?_))
        rintro e W2 ⟨rfl, hb2⟩
        rw [HSN.out]
        have hz4 := q4.size
        have k1 := q1.keep hb2
        have k2 := q2.keep hb2
        have k3 := q3.keep hb2
        have k4 : Below w.heap.size w W2 := q4.trans (hb2.mono hz4)
        have kf := keepsFrom_below (B := wr.heap.size) hb2
        have kz := hb2.size
        clear c0 c1 c2 c3 c4 c5 c6 c7 c8 q1 q2 q3 q4 hb2
        have hone : sn (sx f p) = ⟨#[ch (sx f p)]⟩ := rfl
        by_cases hst : sx f p = p
        · have hnx := HSTAY.out hst
          have e1 : srcK f (w.heap.size + 1) p = srcK f (w.heap.size + 1) (p + 1) := HS2.out hnx
          rw [hst]
          rw [e1] at k2
          have HNM2 := Lib.hid (fun W => name_c p hp9 W)
          have hb1 : ((sn p).toList == (sn p).toList) = true := by simp
          gi_wp2
          refine ⟨trivial, CallsIn.inRound l (callsIn_wide.2 ((HNM2.out _).mono ?_))⟩
          rintro e wq ⟨rfl, rfl⟩
          rw [HNM.out]
          gi_wp2
          exact ⟨kf, KeepsIn.zero kz, k1, by rw [HL.out]; exact k2, k3, k4⟩
        · have hnx := HYES.out hst
          have e1 := HSET.out (spotV (w.heap.size + 1) (nxT f p))
          rw [HS1.out, hnx] at e1
          have E1 := Lib.hid e1
          have HNM2 := Lib.hid (fun W => name_c p hp9 W)
          have hb1 : ((sn (sx f p)).toList == (sn p).toList) = false := by
            rw [beq_str, decide_eq_false_iff_not]
            exact fun e => hst (sn_inj hsx (by omega) e)
          clear e1 hone hnx
          have HOLD := Lib.hid ((k2.cell (p * 2 + 1)).trans (spA_src (nmK 19) (srcK f (w.heap.size + 1) p) p (by omega)))
          generalize sx f p = j at *
          gi_wp2
          refine ⟨trivial, CallsIn.inRound l (callsIn_wide.2 ((HNM2.out _).mono ?_))⟩
          rintro e wq ⟨rfl, rfl⟩
          rw [HNM.out]
          gi_wp2
          refine ⟨trivial, CallsIn.inRound l (callsIn_wide.2 ((HPOS.out _).mono ?_))⟩
          rintro e wq ⟨rfl, rfl⟩
          have c3 : W2.drew.cell? ⟨w.heap.size + 2, 0, none⟩ = some (.pointer (some ⟨w.heap.size + 1, 0, none⟩)) := k3.cell 0
          have cq : W2.drew.cell? ⟨w.heap.size + 1, p * 2 + 1, none⟩ = some (srcK f (w.heap.size + 1) p p) := HOLD.out
          have fq : W2.drew.frozen? ⟨w.heap.size + 1, p * 2 + 1, none⟩ = false := k2.frozen _
          have l2 := k2.lt
          have i0 : (0 : Int) ≤ (p : Int) := by omega
          have i1 : (p : Int) < 19 := by omega
          have i2 : (0 : Int) ≤ (j : Int) := by omega
          have i3 : (j : Int) < 19 := by omega
          gi_wp2
          refine region_tail_inRound (F := Fence.wide) (C := fun w' => w' = W2.drew) 9 rfl (by kernel_rfl) (by kernel_rfl) (by kernel_rfl) rfl ?_
          simp only [List.take_succ_cons, List.take_zero, List.drop_succ_cons, List.drop_zero]
          repeat (gi_big_quiet_step (fail))
          refine wpQuietIn_nil ?_
          intro w' hw'
          subst hw'
          clear c3 hb1
          gi_wp2
          have d1 := k1.far (p := ⟨w.heap.size + 1, p * 2 + 1, none⟩) (by simp) (.pointer (some ⟨w.heap.size + 1, j * 2, none⟩))
          have d2 := k2.set (p * 2 + 1) (.pointer (some ⟨w.heap.size + 1, j * 2, none⟩))
          have d3 := k3.far (p := ⟨w.heap.size + 1, p * 2 + 1, none⟩) (by simp) (.pointer (some ⟨w.heap.size + 1, j * 2, none⟩))
          have d4 := k4.setCell (p := ⟨w.heap.size + 1, p * 2 + 1, none⟩) (by simp) (.pointer (some ⟨w.heap.size + 1, j * 2, none⟩))
          have e2 := E1.out
          rw [show spotV (w.heap.size + 1) (some j) = .pointer (some ⟨w.heap.size + 1, j * 2, none⟩) from rfl] at e2
          rw [e2] at d2
          refine ⟨(kf.trans ((KeepsOthers.setCell _ _ _).from _)).trans ((KeepsOthers.drew _).from _), KeepsIn.zero (by simp [World.size_setCell, World.size_drew]; exact kz), d1, by rw [HL.out]; exact d2, d3, d4.drew⟩
      case done =>
        intro D W hD hI hd
        obtain ⟨q1, q2, q3, q4⟩ := hI
        have hDD : w.heap.size + 3 ≤ D := by omega
        have l2 := q2.lt
        have q2' : At W (w.heap.size + 1) 132 (spA (nmK 19) (srcK f (w.heap.size + 1) 9)) := q2
        have c3 : W.cell? ⟨w.heap.size + 2, 0, none⟩ = some (.pointer (some ⟨w.heap.size + 1, 0, none⟩)) := q3.cell 0
        have HSP : Hid (Spots (W.putObj D (.deferred none)) (w.heap.size + 1) (nxT f)) := by
          have hA : At (W.putObj D (.deferred none)) (w.heap.size + 1) 132 (spA (nmK 19) (srcK f (w.heap.size + 1) 9)) := (World.putObj_heap_other (by omega)).trans q2'
          refine ⟨⟨_, _, hA⟩, fun i hi => ?_, fun i hi => ?_⟩
          · rw [hA.cell, spA_name _ _ i hi]; simp [nmK, hi]
          · rw [hA.cell, spA_src _ _ i hi]
            by_cases h9 : i < 9
            · simp [srcK, h9]
            · simp [srcK, h9, nxT_digit h9, spotV]
        clear q2
        gi_wp2
        refine ⟨by simp, .inl ⟨D, _, rfl, run_takeDeferred hd, ?_⟩⟩
        refine ⟨_, results_tmp rfl _ _ _, ⟨_, rfl, by omega, HSP.out⟩, ?_⟩
        exact q4.trans ⟨rfl, rfl, rfl, by simp [World.putObj], fun k hk => World.putObj_heap_other (by omega)⟩
      case stop =>
        intro _ _ _ _ _ _ hff
        exact hff.elim
end Go.Proofs.YtplapaojgcloaaaGreatDoor
namespace Go.Proofs.YtplapaojgcloaaaGreatDoor
open Go.RowKit Go.PM Go.PW Go.Lib

end Go.Proofs.YtplapaojgcloaaaGreatDoor
namespace Go.PW
open Go.PM
/-- where the way ends, and whether a ring goes round there -/
theorem ring_last {f : Nat → ByteArray} (hf : SV f) {s : Nat} (hs : s < 19) : ∃ i, (way (nxT f) s)[(way (nxT f) s).length - 1]? = some i ∧ i < 19 ∧ (onRb (nxT f) s = true ↔ 2 ≤ (way (nxT f) s).length ∧ i < 9 ∧ sx f i = s) := by
  have hn := nice hf
  have hr := way_rho hn hs
  have hp := hr.pos
  have h1 := hr.some_ (j := (way (nxT f) s).length - 1) (by omega)
  have h0 := hr.some_ hp
  refine ⟨_, List.getElem?_eq_getElem (by omega), hr.lt _ (List.getElem_mem _), ?_⟩
  generalize (way (nxT f) s)[(way (nxT f) s).length - 1]'(by omega) = i at *
  have h2 : orb (nxT f) s (way (nxT f) s).length = nxT f i := by
    have : orb (nxT f) s ((way (nxT f) s).length - 1 + 1) = (orb (nxT f) s ((way (nxT f) s).length - 1)).bind (nxT f) := rfl
    rw [show (way (nxT f) s).length - 1 + 1 = (way (nxT f) s).length by omega, h1] at this
    exact this
  unfold onRb
  rw [h2, decide_eq_true_eq]
  constructor
  · intro e
    have h9 := hn.low i s e
    have hi : i ≠ s := fun e2 => hn.irr i (by rw [e, e2])
    have hsx : sx f i = s := by
      by_cases e2 : sx f i = i
      · rw [nxT_stay h9 e2] at e; cases e
      · rw [nxT_some h9 e2] at e; exact Option.some.inj e
    refine ⟨?_, h9, hsx⟩
    rcases Nat.lt_or_ge 1 (way (nxT f) s).length with h | h
    · exact h
    · exfalso
      have h3 : (way (nxT f) s).length - 1 = 0 := by omega
      rw [h3] at h1
      have : orb (nxT f) s 0 = some s := rfl
      rw [this] at h1
      exact hi (Option.some.inj h1).symm
  · rintro ⟨hl, h9, hsx⟩
    have hi : sx f i ≠ i := by
      intro e
      have e2 : s = i := by rw [← hsx, e]
      have h3 : orb (nxT f) s 0 = orb (nxT f) s ((way (nxT f) s).length - 1) := by rw [h1, ← e2]; rfl
      have := hr.inj hp (by omega) h3
      omega
    rw [nxT_some h9 hi, hsx]
end Go.PW
namespace Go.Proofs.YtplapaojgcloaaaGreatDoor
open Go.RowKit Go.PM Go.PW Go.Lib

end Go.Proofs.YtplapaojgcloaaaGreatDoor
namespace Go.PW
open Go.PM
def wayB (xs : List Mv) (a : ByteArray) : ByteArray := txt (way (nxT (tabOf xs)) (pidx a))
noncomputable def depN (nx : Nat → Option Nat) (s : Nat) : Nat := least (Stops nx s)
theorem depN_stops {nx : Nat → Option Nat} (hn : Nice nx) {s : Nat} (hs : s < 19) : Stops nx s (depN nx s) := by
  obtain ⟨D, hD, _⟩ := (way_rho hn hs).stops
  exact (least_spec ⟨D, hD⟩).1
noncomputable def depthI (xs : List Mv) (a : ByteArray) : Int := if mvalid xs && isP a then (depN (nxT (tabOf xs)) (pidx a) : Int) else -1
theorem isP_sn {a : ByteArray} (h : isP a = true) : a = sn (pidx a) := by
  have := pidx_spec h
  rw [sn_nm _ this.1, this.2]
end Go.PW
namespace Go.Proofs.YtplapaojgcloaaaGreatDoor
open Go.RowKit Go.PM Go.PW Go.Lib

end Go.Proofs.YtplapaojgcloaaaGreatDoor
namespace Go.Proofs.YtplapaojgcloaaaGreatDoor
open Go.RowKit Go.PM Go.PW Go.Lib

end Go.Proofs.YtplapaojgcloaaaGreatDoor
namespace Go.PW
open Go.PM

/-- two sets become one -/
def joinH (h : Nat → Nat) (a b : Nat) : Nat → Nat := fun q => if h q = h a then h b else h q
/-- which place stands for a place's wheel, when the first k places are joined with their sources -/
def hdF (f : Nat → ByteArray) : Nat → Nat → Nat
  | 0 => id
  | k + 1 => if sx f k < 9 then joinH (hdF f k) k (sx f k) else hdF f k
variable {f : Nat → ByteArray}
theorem hdF_yes {k : Nat} (h : sx f k < 9) : hdF f (k + 1) = joinH (hdF f k) k (sx f k) := by rw [hdF, if_pos h]
theorem hdF_no {k : Nat} (h : ¬ sx f k < 9) : hdF f (k + 1) = hdF f k := by rw [hdF, if_neg h]
theorem hd_sound (S : Nat → Prop) : ∀ k, (∀ p, p < k → sx f p < 9 → (S p ↔ S (sx f p))) → ∀ q r, hdF f k q = hdF f k r → (S q ↔ S r) := by
  intro k
  induction k with
  | zero => intro _ q r e; have : q = r := e; rw [this]
  | succ k ih =>
    intro hS q r e
    have ih := ih (fun p hp => hS p (by omega))
    by_cases h9 : sx f k < 9
    · rw [hdF_yes h9] at e
      have hk := hS k (by omega) h9
      unfold joinH at e
      by_cases h1 : hdF f k q = hdF f k k
      · by_cases h2 : hdF f k r = hdF f k k
        · rw [ih q k h1, ih r k h2]
        · rw [if_pos h1, if_neg h2] at e
          rw [ih q k h1, hk, ih _ r e]
      · by_cases h2 : hdF f k r = hdF f k k
        · rw [if_neg h1, if_pos h2] at e
          rw [ih q _ e, ← hk, ih r k h2]
        · rw [if_neg h1, if_neg h2] at e
          exact ih q r e
    · rw [hdF_no h9] at e
      exact ih q r e
theorem hd_keep {k q r : Nat} (e : hdF f k q = hdF f k r) : hdF f (k + 1) q = hdF f (k + 1) r := by
  by_cases h9 : sx f k < 9
  · rw [hdF_yes h9]; unfold joinH; rw [e]
  · rw [hdF_no h9]; exact e
theorem hd_edge : ∀ k p, p < k → sx f p < 9 → hdF f k p = hdF f k (sx f p) := by
  intro k
  induction k with
  | zero => intro p h; omega
  | succ k ih =>
    intro p hp h9
    rcases Nat.lt_or_ge p k with h1 | h1
    · exact hd_keep (ih p h1 h9)
    · have : p = k := by omega
      subst this
      rw [hdF_yes h9]
      unfold joinH
      rw [if_pos rfl]
      by_cases h2 : hdF f p (sx f p) = hdF f p p
      · rw [if_pos h2]
      · rw [if_neg h2]
theorem hd_lt (k : Nat) (hk : k ≤ 9) : ∀ q, q < 9 → hdF f k q < 9 := by
  induction k with
  | zero => intro q h; exact h
  | succ k ih =>
    intro q hq
    by_cases h9 : sx f k < 9
    · rw [hdF_yes h9]; unfold joinH
      by_cases h1 : hdF f k q = hdF f k k
      · rw [if_pos h1]; exact ih (by omega) _ h9
      · rw [if_neg h1]; exact ih (by omega) _ hq
    · rw [hdF_no h9]; exact ih (by omega) q hq

/-- an array that leads each place to the one that stands for its set -/
structure Forest (w h dp : Nat → Nat) : Prop where
  lt : ∀ q, q < 9 → w q < 9
  hlt : ∀ q, q < 9 → h q < 9
  root : ∀ q, q < 9 → w q = q → h q = q
  up : ∀ q, q < 9 → w q ≠ q → dp (w q) < dp q ∧ h (w q) = h q
  top : ∀ q, q < 9 → w (h q) = h q
theorem Forest.id : Forest (fun q => q) (fun q => q) (fun _ => 0) := ⟨fun _ h => h, fun _ h => h, fun _ _ _ => rfl, fun _ _ h => absurd rfl h, fun _ _ => rfl⟩
theorem Forest.join {w h dp : Nat → Nat} (F : Forest w h dp) {a b : Nat} (ha : a < 9) (hb : b < 9) :
    ∃ dp', Forest (fun q => if q = h a then h b else w q) (joinH h a b) dp' := by
  have hab := F.hlt a ha
  have hbb := F.hlt b hb
  have ta := F.root _ hab (F.top a ha)
  have tb := F.root _ hbb (F.top b hb)
  by_cases he : h a = h b
  · refine ⟨dp, ⟨fun q hq => ?_, fun q hq => ?_, fun q hq e => ?_, fun q hq e => ?_, fun q hq => ?_⟩⟩
    all_goals
      have e1 : ∀ q, (if q = h a then h b else w q) = w q := by
        intro q
        by_cases h1 : q = h a
        · rw [if_pos h1, h1, ← he, F.top a ha]
        · rw [if_neg h1]
      have e2 : ∀ q, joinH h a b q = h q := by
        intro q; unfold joinH
        by_cases h1 : h q = h a
        · rw [if_pos h1, h1, he]
        · rw [if_neg h1]
      simp only [e1, e2] at *
    · exact F.lt q hq
    · exact F.hlt q hq
    · exact F.root q hq e
    · exact F.up q hq e
    · exact F.top q hq
  · refine ⟨fun q => if h q = h a then dp q + dp (h b) + 1 else dp q, ⟨fun q hq => ?_, fun q hq => ?_, fun q hq e => ?_, fun q hq e => ?_, fun q hq => ?_⟩⟩
    · show (if q = h a then h b else w q) < 9
      by_cases h1 : q = h a
      · rw [if_pos h1]; exact hbb
      · rw [if_neg h1]; exact F.lt q hq
    · unfold joinH
      by_cases h1 : h q = h a
      · rw [if_pos h1]; exact hbb
      · rw [if_neg h1]; exact F.hlt q hq
    · have e : (if q = h a then h b else w q) = q := e
      by_cases h1 : q = h a
      · rw [if_pos h1, h1] at e; exact absurd e.symm he
      · rw [if_neg h1] at e
        have := F.root q hq e
        unfold joinH
        rw [if_neg (by rw [this]; exact h1)]; exact this
    · have e : (if q = h a then h b else w q) ≠ q := e
      show (if h (if q = h a then h b else w q) = h a then dp (if q = h a then h b else w q) + dp (h b) + 1 else dp (if q = h a then h b else w q)) < (if h q = h a then dp q + dp (h b) + 1 else dp q) ∧ joinH h a b (if q = h a then h b else w q) = joinH h a b q
      by_cases h1 : q = h a
      · subst h1
        rw [if_pos rfl, if_neg (by rw [tb]; exact fun h => he h.symm), if_pos ta]
        refine ⟨by omega, ?_⟩
        unfold joinH
        rw [if_neg (by rw [tb]; exact fun h => he h.symm), if_pos ta, tb]
      · rw [if_neg h1] at e ⊢
        have u := F.up q hq e
        rw [u.2]
        refine ⟨?_, by unfold joinH; rw [u.2]⟩
        by_cases h2 : h q = h a
        · rw [if_pos h2, if_pos h2]; omega
        · rw [if_neg h2, if_neg h2]; exact u.1
    · show (if joinH h a b q = h a then h b else w (joinH h a b q)) = joinH h a b q
      unfold joinH
      by_cases h1 : h q = h a
      · rw [if_pos h1, if_neg (fun h => he h.symm)]; exact F.top b hb
      · rw [if_neg h1, if_neg h1]; exact F.top q hq

/-- a list of places that hang together with one and from which nothing leads out -/
structure Comp (f : Nat → ByteArray) (p : Nat) (l : List Nat) (done : Nat) : Prop where
  nodup : l.Nodup
  lt : ∀ q ∈ l, q < 9
  has : p ∈ l
  in_ : ∀ q ∈ l, hdF f 9 q = hdF f 9 p
  out : ∀ k q, k < done → l[k]? = some q → (sx f q < 9 → sx f q ∈ l) ∧ ∀ r, r < 9 → sx f r = q → r ∈ l
theorem Comp.all {p : Nat} {l : List Nat} (h : Comp f p l l.length) : ∀ q, q < 9 → (q ∈ l ↔ hdF f 9 q = hdF f 9 p) := by
  intro q hq
  refine ⟨h.in_ q, fun e => ?_⟩
  refine (hd_sound (f := f) (fun x => x ∈ l) 9 (fun r hr h9 => ?_) q p e).2 h.has
  have hin : ∀ x, x ∈ l → (sx f x < 9 → sx f x ∈ l) ∧ ∀ r, r < 9 → sx f r = x → r ∈ l := by
    intro x hx
    obtain ⟨k, hk⟩ := List.getElem?_of_mem hx
    exact h.out k x (List.getElem?_eq_some_iff.1 hk).1 hk
  exact ⟨fun hm => (hin r hm).1 h9, fun hm => (hin _ hm).2 r hr rfl⟩
end Go.PW
namespace Go.PW
open Go.RowKit Go.PM
/-- the cells of the wheels -/
abbrev whA (g : Nat → Nat) : Array Value := #[.int .i64 (g 0 : Nat), .int .i64 (g 1 : Nat), .int .i64 (g 2 : Nat), .int .i64 (g 3 : Nat), .int .i64 (g 4 : Nat), .int .i64 (g 5 : Nat), .int .i64 (g 6 : Nat), .int .i64 (g 7 : Nat), .int .i64 (g 8 : Nat)]
theorem whA_at (g : Nat → Nat) (q : Nat) (hq : q < 9) : (whA g)[q]? = some (.int .i64 (g q : Nat)) := by
  match q, hq with
  | 0, _ | 1, _ | 2, _ | 3, _ | 4, _ | 5, _ | 6, _ | 7, _ | 8, _ => rfl
theorem whA_set (g : Nat → Nat) (q : Nat) (hq : q < 9) (x : Nat) : (whA g).setIfInBounds q (.int .i64 (x : Nat)) = whA (fun r => if r = q then x else g r) := by
  match q, hq with
  | 0, _ | 1, _ | 2, _ | 3, _ | 4, _ | 5, _ | 6, _ | 7, _ | 8, _ => simp [whA]
theorem grown_set (w : World) (p : Addr) (v : Value) : w.grownBy (w.setCell p v) (some p.block) :=
  ⟨rfl, rfl, rfl, by simp [World.size_setCell], fun i _ hne => heap_setCell_other w p i v (fun e => hne (by rw [e]))⟩
end Go.PW
namespace Go.Proofs.YtplapaojgcloaaaGreatDoor
open Go.RowKit Go.PM Go.PW

end Go.Proofs.YtplapaojgcloaaaGreatDoor
namespace Go.PM
open Go.RowKit
theorem own_box_ne' {w : World} {base : Nat} {e t : TypeId} {size n b : Nat} {v : Value} {cs : List Value} {c : Array Value} (h : w.ownsRow base e size v n cs) (hA : At w b t c) (hne : e ≠ t) : some b ≠ v.ownBlock := by
  rcases h.2 with ⟨rfl, _⟩ | ⟨g, cap, cur, rfl, _, hg, _⟩
  · simp [Value.ownBlock]
  · intro e'
    simp only [Value.ownBlock, Option.some.injEq] at e'
    subst e'
    unfold At at hA
    rw [hA] at hg
    cases hg
    exact hne rfl
theorem own_turn' {w w' : World} {base : Nat} {e : TypeId} {size n : Nat} {v : Value} {cs : List Value} {row : Option Nat} (h : w.ownsRow base e size v n cs) (hg : w.grownBy w' row) (hr : ∀ r, row = some r → ∃ o : Obj, w.heap[r]? = some o ∧ o.isCells = false) : w'.ownsRow base e size v n cs := by
  refine h.kept hg ?_
  rcases h.2 with ⟨rfl, _⟩ | ⟨g, cap, cur, rfl, _, hh, _⟩
  · exact .inl rfl
  · refine .inr fun e' => ?_
    obtain ⟨o, ho, hc⟩ := hr g e'.symm
    rw [hh] at ho
    cases ho
    cases hc
theorem at_turn' {w w' : World} {b : Nat} {t : TypeId} {c : Array Value} {row : Option Nat} (h : At w b t c) (hg : w.grownBy w' row) (hr : ∀ r, row = some r → ∃ o : Obj, w.heap[r]? = some o ∧ o.isCells = false) : At w' b t c := by
  refine (hg.block b h.lt fun e' => ?_).trans h
  obtain ⟨o, ho, hc⟩ := hr b e'.symm
  unfold At at h
  rw [h] at ho
  cases ho
  cases hc
theorem at_grown' {w w' : World} {b : Nat} {t : TypeId} {cs : Array Value} {row : Option Nat} (h : At w b t cs) (hg : w.grownBy w' row) (hne : some b ≠ row) : At w' b t cs := (hg.block b h.lt hne).trans h
end Go.PM
namespace Go.PW
open Go.PM
variable {f : Nat → ByteArray}
def wheelH (f : Nat → ByteArray) (p q : Nat) : Bool := decide (hdF f 9 q = hdF f 9 p)
/-- the wheel of a place, in order -/
def wheelL (f : Nat → ByteArray) (p : Nat) : List Nat := (List.range 9).filter (wheelH f p)
theorem wheelL_mem {p q : Nat} : q ∈ wheelL f p ↔ q < 9 ∧ hdF f 9 q = hdF f 9 p := by
  simp [wheelL, wheelH]
theorem wheelL_congr {p q : Nat} (e : hdF f 9 q = hdF f 9 p) : wheelL f q = wheelL f p := by
  unfold wheelL wheelH; rw [e]
theorem wheelL_lt {p : Nat} : ∀ a ∈ wheelL f p, a < 9 := fun _a ha => (wheelL_mem.1 ha).1
theorem wheelL_self {p : Nat} (hp : p < 9) : p ∈ wheelL f p := wheelL_mem.2 ⟨hp, rfl⟩
theorem wheelL_len (p : Nat) : (wheelL f p).length ≤ 9 := by
  have := List.length_filter_le (wheelH f p) (List.range 9)
  simpa [wheelL] using this
theorem head_le : ∀ (l : List Nat), l.Pairwise (· < ·) → ∀ a ∈ l, ∃ h, l.head? = some h ∧ h ≤ a ∧ h ∈ l
  | [], _, a, ha => by cases ha
  | x :: l, hp, a, ha => by
    refine ⟨x, rfl, ?_, by simp⟩
    rw [List.mem_cons] at ha
    rcases ha with rfl | ha
    · exact Nat.le_refl _
    · exact Nat.le_of_lt ((List.pairwise_cons.1 hp).1 a ha)
theorem wheelL_sorted (p : Nat) : (wheelL f p).Pairwise (· < ·) := by
  unfold wheelL
  exact (List.pairwise_lt_range (n := 9)).filter _
theorem wheelL_head {p : Nat} (hp : p < 9) : ∃ h, (wheelL f p).head? = some h ∧ h ≤ p ∧ h ∈ wheelL f p := head_le _ (wheelL_sorted p) p (wheelL_self hp)
/-- whether a place is the first one of a wheel of two places or more -/
def firstW (f : Nat → ByteArray) (p : Nat) : Bool := decide (1 < (wheelL f p).length ∧ (wheelL f p).head? = some p)
/-- the wheels of the first k places -/
def wheelsF (f : Nat → ByteArray) (k : Nat) : List (List Nat) := ((List.range k).filter (firstW f)).map (wheelL f)
theorem wheelsF_yes {k : Nat} (h : firstW f k = true) : wheelsF f (k + 1) = wheelsF f k ++ [wheelL f k] := by simp [wheelsF, List.range_succ, h]
theorem wheelsF_no {k : Nat} (h : firstW f k = false) : wheelsF f (k + 1) = wheelsF f k := by simp [wheelsF, List.range_succ, h]
theorem wheelsF_len (k : Nat) : (wheelsF f k).length ≤ k := by
  unfold wheelsF; rw [List.length_map]
  have := List.length_filter_le (firstW f) (List.range k)
  simpa using this
theorem flat_len : ∀ (l : List (List Nat)), (∀ x ∈ l, x.length ≤ 9) → l.flatten.length ≤ 9 * l.length
  | [], _ => by simp
  | x :: l, h => by
    have := flat_len l fun y hy => h y (by simp [hy])
    have := h x (by simp)
    simp only [List.flatten_cons, List.length_append, List.length_cons]; omega
theorem wheelsF_flat (k : Nat) : (∀ a ∈ (wheelsF f k).flatten, a < 9) ∧ (wheelsF f k).flatten.length ≤ 9 * k := by
  have hm : ∀ x ∈ wheelsF f k, ∃ p, x = wheelL f p := fun x hx => by
    obtain ⟨p, _, e⟩ := List.mem_map.1 hx; exact ⟨p, e.symm⟩
  refine ⟨fun a ha => ?_, ?_⟩
  · obtain ⟨x, hx, ha⟩ := List.mem_flatten.1 ha
    obtain ⟨p, rfl⟩ := hm x hx
    exact wheelL_lt a ha
  · have h1 := flat_len (wheelsF f k) fun x hx => by obtain ⟨p, rfl⟩ := hm x hx; exact wheelL_len p
    have h2 := wheelsF_len (f := f) k
    omega
/-- the first place of a wheel is not in an earlier one exactly if it is the place itself -/
theorem seen_iff {p : Nat} (hp : p < 9) (hl : 1 < (wheelL f p).length) {h : Nat} (hh : (wheelL f p).head? = some h) : h ∉ (wheelsF f p).flatten ↔ h = p := by
  obtain ⟨h', e, hle, hm⟩ := wheelL_head (f := f) hp
  rw [hh] at e; cases e
  have hc := (wheelL_mem.1 hm).2
  constructor
  · intro hn
    rcases Nat.lt_or_ge h p with h1 | h1
    · exfalso
      apply hn
      refine List.mem_flatten.2 ⟨wheelL f h, List.mem_map.2 ⟨h, List.mem_filter.2 ⟨by simpa using h1, ?_⟩, rfl⟩, wheelL_self (by omega)⟩
      unfold firstW
      rw [wheelL_congr hc, decide_eq_true_eq]
      exact ⟨hl, hh⟩
    · omega
  · rintro rfl hin
    obtain ⟨x, hx, ha⟩ := List.mem_flatten.1 hin
    obtain ⟨r, hr, rfl⟩ := List.mem_map.1 hx
    obtain ⟨hr1, hr2⟩ := List.mem_filter.1 hr
    unfold firstW at hr2
    rw [decide_eq_true_eq] at hr2
    have e1 := wheelL_congr (wheelL_mem.1 ha).2
    rw [← e1, hh] at hr2
    have := Option.some.inj hr2.2
    have : r < h := by simpa using hr1
    omega

/-- a ring's places have readers -/
theorem ring_pred {nx : Nat → Option Nat} {i : Nat} (h : OnR nx i) : ∃ j, nx j = some i := by
  obtain ⟨k, hk, e⟩ := h
  obtain ⟨k, rfl⟩ : ∃ m, k = m + 1 := ⟨k - 1, by omega⟩
  simp only [orb, Option.bind_eq_some_iff] at e
  obtain ⟨j, _, e⟩ := e
  exact ⟨j, e⟩
theorem ring_all {nx : Nat → Option Nat} (hn : Nice nx) {s : Nat} (hs : s < 19) (h : OnR nx s) : ∀ i ∈ way nx s, OnR nx i := by
  intro i hi
  have hr := way_rho hn hs
  have e := hr.onR.1 h
  obtain ⟨j, hj⟩ := List.getElem?_of_mem hi
  have hlt := (List.getElem?_eq_some_iff.1 hj).1
  rw [hr.at_ j hlt] at hj
  exact (hr.ring_at hr.pos (by rw [e]; rfl) hj).2 (Nat.zero_le _)
theorem ring_low {nx : Nat → Option Nat} (hn : Nice nx) {i : Nat} (h : OnR nx i) : i < 9 := by
  obtain ⟨k, hk, e⟩ := h
  obtain ⟨k, rfl⟩ : ∃ m, k = m + 1 := ⟨k - 1, by omega⟩
  rw [show k + 1 = 1 + k by omega, orb_add] at e
  cases h1 : orb nx i 1 with
  | none => rw [h1] at e; cases e
  | some j => exact hn.low i j (by simpa [orb] using h1)
/-- how many places read a spot -/
def rcount (f : Nat → ByteArray) (i : Nat) : Nat := (namesW (rdH f (sn i))).size
theorem rcount_pos {f : Nat → ByteArray} (hf : SV f) {i j : Nat} (hi : i < 19) (h : nxT f j = some i) : 1 ≤ rcount f i := by
  have hj := (nice hf).low _ _ h
  have hs : sx f j = i ∧ j ≠ i := by
    unfold nxT at h
    rw [if_pos hj] at h
    by_cases e : sx f j = j
    · rw [if_pos e] at h; cases h
    · rw [if_neg e, Option.some.injEq] at h; exact ⟨h, fun e2 => e (by rw [h, e2])⟩
  have hr : rdH f (sn i) j = true := by
    unfold rdH
    rw [← (sx_lt hf hj).2, hs.1, ← sn_nm j hj]
    simp only [decide_true, Bool.and_true, decide_eq_true_eq]
    exact fun e => hs.2 (sn_inj (by omega) hi e)
  unfold rcount namesW
  have : j ∈ (List.range 9).filter (rdH f (sn i)) := List.mem_filter.2 ⟨by simpa using hj, hr⟩
  have h0 := List.length_pos_of_mem this
  have e : (ByteArray.mk (namesL (rdH f (sn i)) (List.range 9)).toArray).size = ((List.range 9).filter (rdH f (sn i))).length := by simp [ByteArray.size, namesL]
  rw [e]; exact h0
/-- a ring that nobody reads from outside -/
def shut (f : Nat → ByteArray) (l : List Nat) : Bool := l.all fun i => decide (rcount f i ≤ 1)
theorem ring_one {f : Nat → ByteArray} (hf : SV f) {s : Nat} (hs : s < 19) (h : onRb (nxT f) s = true) {i : Nat} (hi : i ∈ way (nxT f) s) : (rcount f i ≤ 1 ↔ rcount f i = 1) := by
  have hn := nice hf
  have h1 := ring_all hn hs ((onRb_iff hn hs).1 h) i hi
  obtain ⟨j, hj⟩ := ring_pred h1
  have := rcount_pos hf ((way_rho hn hs).lt i hi) hj
  omega
end Go.PW
namespace Go.PW
open Go.PM
variable {f : Nat → ByteArray}
theorem namesW_txt (h : Nat → Bool) : namesW h = txt ((List.range 9).filter h) := by
  unfold namesW namesL txt
  congr 2
  refine List.map_congr_left fun p hp => ?_
  have hp9 : p < 9 := by simpa using (List.mem_filter.1 hp).1
  match p, hp9 with
  | 0, _ | 1, _ | 2, _ | 3, _ | 4, _ | 5, _ | 6, _ | 7, _ | 8, _ => rfl
/-- the places next to a place -/
def nbL (f : Nat → ByteArray) (q : Nat) : List Nat := (List.range 9).filter (rdH f (sn q)) ++ (if sx f q < 9 then [sx f q] else [])
theorem nbL_lt (q : Nat) : ∀ e ∈ nbL f q, e < 9 := by
  intro e he
  unfold nbL at he
  rw [List.mem_append] at he
  rcases he with he | he
  · simpa using (List.mem_filter.1 he).1
  · by_cases h : sx f q < 9
    · rw [if_pos h] at he; simp at he; omega
    · rw [if_neg h] at he; cases he
theorem nbL_len (q : Nat) : (nbL f q).length ≤ 10 := by
  unfold nbL
  rw [List.length_append]
  have h1 := List.length_filter_le (rdH f (sn q)) (List.range 9)
  by_cases h : sx f q < 9
  · rw [if_pos h]; simp at h1 ⊢; omega
  · rw [if_neg h]; simp at h1 ⊢; omega
theorem rdH_sx (hf : SV f) {q r : Nat} (hq : q < 19) (hr : r < 9) : rdH f (sn q) r = true ↔ r ≠ q ∧ sx f r = q := by
  unfold rdH
  rw [← (sx_lt hf hr).2, ← sn_nm r hr, Bool.and_eq_true, decide_eq_true_eq, decide_eq_true_eq]
  constructor
  · rintro ⟨h1, h2⟩
    exact ⟨fun e => h1 (by rw [e]), sn_inj (sx_lt hf hr).1 hq h2⟩
  · rintro ⟨h1, h2⟩
    exact ⟨fun e => h1 (sn_inj (by omega) hq e), by rw [h2]⟩
theorem nbL_hd (hf : SV f) {q : Nat} (hq : q < 9) : ∀ e ∈ nbL f q, hdF f 9 e = hdF f 9 q := by
  intro e he
  have he9 := nbL_lt q e he
  unfold nbL at he
  rw [List.mem_append] at he
  rcases he with he | he
  · have h := (rdH_sx hf (show q < 19 by omega) he9).1 (List.mem_filter.1 he).2
    have := hd_edge (f := f) 9 e he9 (by rw [h.2]; exact hq)
    rw [this, h.2]
  · by_cases h : sx f q < 9
    · rw [if_pos h] at he
      simp at he
      subst he
      exact (hd_edge (f := f) 9 q hq h).symm
    · rw [if_neg h] at he; cases he
/-- what the inner walk has made of l -/
structure Part (f : Nat → ByteArray) (p : Nat) (l m : List Nat) : Prop where
  pre : l <+: m
  nodup : m.Nodup
  lt : ∀ q ∈ m, q < 9
  in_ : ∀ q ∈ m, hdF f 9 q = hdF f 9 p
theorem Comp.part {p : Nat} {l : List Nat} {i : Nat} (h : Comp f p l i) : Part f p l l := ⟨List.prefix_refl _, h.nodup, h.lt, h.in_⟩
theorem Part.add {p : Nat} {l m : List Nat} {e : Nat} (h : Part f p l m) (he : e < 9) (hh : hdF f 9 e = hdF f 9 p) (hm : e ∉ m) : Part f p l (m ++ [e]) := by
  refine ⟨h.pre.trans (List.prefix_append _ _), ?_, fun q hq => ?_, fun q hq => ?_⟩
  · rw [List.nodup_append]
    exact ⟨h.nodup, by simp, fun a ha b hb e2 => by simp at hb; subst hb; subst e2; exact hm ha⟩
  · rw [List.mem_append] at hq
    rcases hq with hq | hq
    · exact h.lt q hq
    · simp at hq; omega
  · rw [List.mem_append] at hq
    rcases hq with hq | hq
    · exact h.in_ q hq
    · simp at hq; rw [hq]; exact hh
theorem Part.len {p : Nat} {l m : List Nat} (h : Part f p l m) : m.length ≤ 9 := nodup_le m 9 h.nodup h.lt
theorem Comp.start (f : Nat → ByteArray) {p : Nat} (hp : p < 9) : Comp f p [p] 0 :=
  ⟨by simp, fun q hq => by simp at hq; omega, by simp, fun q hq => by simp at hq; rw [hq], fun k q hk _ => by omega⟩
theorem Comp.next (hf : SV f) {p : Nat} {l m : List Nat} {i q : Nat} (h : Comp f p l i) (hq : l[i]? = some q) (hm : Part f p l m) (hn : ∀ e ∈ nbL f q, e ∈ m) : Comp f p m (i + 1) := by
  have hsub : ∀ x ∈ l, x ∈ m := fun x hx => hm.pre.subset hx
  refine ⟨hm.nodup, hm.lt, hsub p h.has, hm.in_, fun k x hk hx => ?_⟩
  obtain ⟨t, ht⟩ := hm.pre
  have hil := (List.getElem?_eq_some_iff.1 hq).1
  have hx2 : l[k]? = some x := by
    rw [← ht, List.getElem?_append_left (by omega)] at hx; exact hx
  by_cases hki : k = i
  · subst hki
    rw [hq] at hx2
    obtain rfl : q = x := Option.some.inj hx2
    have hqm : q ∈ m := hsub q (List.mem_of_getElem? hq)
    refine ⟨fun h9 => hn _ ?_, fun r hr he => ?_⟩
    · unfold nbL; rw [if_pos h9]; simp
    · by_cases e : r = q
      · rw [e]; exact hqm
      · refine hn r ?_
        unfold nbL
        rw [List.mem_append]
        left
        have hx9 := hm.lt q hqm
        exact List.mem_filter.2 ⟨by simpa using hr, (rdH_sx hf (by omega) hr).2 ⟨e, he⟩⟩
  · have := h.out k x (by omega) hx2
    exact ⟨fun h9 => hsub _ (this.1 h9), fun r hr he => hsub _ (this.2 r hr he)⟩
theorem wheel_all {p : Nat} {l : List Nat} (h : Comp f p l l.length) : (List.range 9).filter (fun q => decide (q ∈ l)) = wheelL f p := by
  unfold wheelL
  refine List.filter_congr fun q hq => ?_
  have hq9 : q < 9 := by simpa using hq
  unfold wheelH
  rw [decide_eq_decide]
  exact h.all q hq9
end Go.PW
namespace Go.Proofs.YtplapaojgcloaaaGreatDoor
open Go.RowKit Go.PM Go.PW Go.Lib

set_option maxRecDepth 100000 in
set_option maxHeartbeats 1000000 in
theorem l3Sorted_c (l : List Nat) (hl : ∀ a ∈ l, a < 9) (hz : l.length ≤ 100) (w : World) :
    Calls Tryz.prog 36 #[.string (txt l)] w fun e w' => e = .returned (.string (txt ((List.range 9).filter fun q => decide (q ∈ l)))) ∧ w = w' := by
  have HN : Hid (∀ q, q < 9 → (ByteArray.mk #[97, 98, 99, 100, 101, 102, 65, 66, 67]).extract q (q+1) = sn q) := by
    show ∀ q, _
    intro q hq
    match q, hq with
    | 0, _ | 1, _ | 2, _ | 3, _ | 4, _ | 5, _ | 6, _ | 7, _ | 8, _ => decide +kernel
  have HI : Hid (∀ q (hq : q < 9) (h : q < (ByteArray.mk #[97, 98, 99, 100, 101, 102, 65, 66, 67]).size), (ByteArray.mk #[97, 98, 99, 100, 101, 102, 65, 66, 67])[q] = ch q) := by
    show ∀ q, _
    intro q hq h
    match q, hq with
    | 0, _ | 1, _ | 2, _ | 3, _ | 4, _ | 5, _ | 6, _ | 7, _ | 8, _ => rfl
  have HM := Lib.hid (fun k (hk : k < 9) => txt_mem (fun a ha => by have := hl a ha; omega) (show k < 19 by omega))
  have hsz := txt_size l
  have hsz2 : (txt l).size ≤ 9223372036854775807 := by omega
  have HF : Hid (∀ k, (List.range (k + 1)).filter (fun q => decide (q ∈ l)) = (List.range k).filter (fun q => decide (q ∈ l)) ++ (if k ∈ l then [k] else [])) := by
    show ∀ k, _
    intro k
    rw [List.range_succ, List.filter_append]
    by_cases h : k ∈ l <;> simp [h]
  have HLE : Hid (∀ k, ((List.range k).filter (fun q => decide (q ∈ l))).length ≤ k) := fun k => by
    have := List.length_filter_le (fun q => decide (q ∈ l)) (List.range k)
    simpa using this
  generalize htx : txt l = t at *
  clear htx
  go_enter Tryz.func36, Tryz.ntmps36
  go_wp2
  go_loop [3, 4, 5] (fun o _ i => ∃ (k : Nat), k ≤ 9 ∧ i = .int .i64 k ∧ o = .string (txt ((List.range k).filter (fun q => decide (q ∈ l))))) (fun _ _ i => 9 - (RowKit.intOf i).toNat)
  case atStart => exact ⟨0, by omega, rfl, rfl⟩
  case round =>
    obtain ⟨k, hk, rfl, rfl⟩ := hrel
    by_cases hlt : k < 9
    · have hex := HN.out k hlt
      have hix := HI.out k hlt
      have hm := HM.out k hlt
      have hle := HLE.out k
      have hoz := txt_size ((List.range k).filter (fun q => decide (q ∈ l)))
      have hone : (sn k).size = 1 := rfl
      have HFK := Lib.hid (HF.out k)
      have HTS := Lib.hid (txt_snoc ((List.range k).filter (fun q => decide (q ∈ l))) k)
      generalize hflt : (List.range k).filter (fun q => decide (q ∈ l)) = fl at *
      generalize htf : txt fl = tf at *
      by_cases hin : k ∈ l
      · have hi0 : (0 : Int) ≤ indexByte t.data.toList (ch k) := (indexByte_mem _ _).2 (hm.2 hin)
        have HR : Hid (txt ((List.range (k + 1)).filter (fun q => decide (q ∈ l))) = tf ++ sn k) := by show _ = _; rw [HFK.out, if_pos hin]; exact HTS.out
        clear hm hin
        generalize ch k = c at *
        go_wp2_with (go_at_call 37; refine (l13Find_c t c _ hsz2).mono ?_; rintro e w' ⟨rfl, rfl⟩)
        go_round
        case rel => exact ⟨k + 1, by omega, by go_num, by rw [HR.out]⟩
        case measure => simp [RowKit.intOf]; omega
      · have hi0 : ¬ (0 : Int) ≤ indexByte t.data.toList (ch k) := fun h => hin (hm.1 ((indexByte_mem _ _).1 h))
        have HR : Hid (txt ((List.range (k + 1)).filter (fun q => decide (q ∈ l))) = tf) := by show _ = _; rw [HFK.out, if_neg hin, List.append_nil]; exact htf
        clear hm hin
        generalize ch k = c at *
        go_wp2_with (go_at_call 37; refine (l13Find_c t c _ hsz2).mono ?_; rintro e w' ⟨rfl, rfl⟩)
        go_round
        case rel => exact ⟨k + 1, by omega, by go_num, by rw [HR.out]⟩
        case measure => simp [RowKit.intOf]; omega
    · have hk9 : k = 9 := by omega
      subst hk9
      go_wp2
      go_ret
      exact ⟨rfl, rfl⟩
end Go.Proofs.YtplapaojgcloaaaGreatDoor
