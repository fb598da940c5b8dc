import Derived.Test.YtfedloljhocpgaaGreatDoorComp
namespace Go.PM
open Go.RowKit
theorem beqB (a b : ByteArray) : (a == b) = (a.data == b.data) := by cases a; cases b; rfl
instance lawB : LawfulBEq ByteArray where
  eq_of_beq {a b} h := by
    rw [beqB] at h
    exact ByteArray.ext (eq_of_beq h)
  rfl {a} := by rw [beqB]; exact beq_self_eq_true _
def rdN (xs : List Mv) (a : ByteArray) : Nat := (xs.map (·.2)).count a
def freeB (xs : List Mv) (m : Mv) : Bool := decide (rdN xs m.1 = 0)
def aheadI (xs : List Mv) : Option Nat := xs.findIdx? (freeB xs)
def aheadZ (xs : List Mv) : Int := match aheadI xs with
  | some i => (i : Int)
  | none => -1
def spT : ByteArray := ⟨#[116]⟩
def instM (a b : ByteArray) (xs : List Mv) : List Mv := xs.map fun m => if m.2 = a then (m.1, b) else m
def redM (d : Mv) (xs : List Mv) : List Mv := if isD d.2 = true then xs else instM d.2 d.1 xs
theorem isP_cases {s : ByteArray} (h : isP s = true) : isD s = false ∧ s ≠ spT := by
  obtain ⟨h1, h2⟩ := pidx_spec h
  rw [← h2]
  generalize pidx s = p at h1
  match p, h1 with
  | 0, _ | 1, _ | 2, _ | 3, _ | 4, _ | 5, _ | 6, _ | 7, _ | 8, _ => decide +kernel
theorem isD_cases {s : ByteArray} (h : isD s = true) : isP s = false ∧ s ≠ spT := by
  refine ⟨?_, fun e => ?_⟩
  · rcases Bool.eq_false_or_eq_true (isP s) with h1 | h1
    · rw [(isP_cases h1).1] at h; cases h
    · exact h1
  · subst e; revert h; decide +kernel
theorem spT_cases : isP spT = false ∧ isD spT = false := by decide +kernel
theorem instM_len (a b : ByteArray) (xs : List Mv) : (instM a b xs).length = xs.length := by simp [instM]
theorem redM_len (d : Mv) (xs : List Mv) : (redM d xs).length = xs.length := by
  unfold redM; split
  · rfl
  · exact instM_len _ _ _
theorem instM_keys (a b : ByteArray) (xs : List Mv) : (instM a b xs).map (·.1) = xs.map (·.1) := by
  unfold instM
  rw [List.map_map]
  refine List.map_congr_left fun m _ => ?_
  show (if m.2 = a then (m.1, b) else m).1 = m.1
  split <;> rfl
theorem redM_keys (d : Mv) (xs : List Mv) : (redM d xs).map (·.1) = xs.map (·.1) := by
  unfold redM; split
  · rfl
  · exact instM_keys _ _ _
theorem instM_mem {a b : ByteArray} {xs : List Mv} {m : Mv} (h : m ∈ instM a b xs) : ∃ x ∈ xs, m.1 = x.1 ∧ ((x.2 = a ∧ m.2 = b) ∨ (x.2 ≠ a ∧ m = x)) := by
  unfold instM at h
  obtain ⟨x, hx, e⟩ := List.mem_map.1 h
  by_cases hxa : x.2 = a
  · rw [if_pos hxa] at e; subst e
    exact ⟨x, hx, rfl, .inl ⟨hxa, rfl⟩⟩
  · rw [if_neg hxa] at e; subst e
    exact ⟨x, hx, rfl, .inr ⟨hxa, rfl⟩⟩
theorem instM_none {a b : ByteArray} {xs : List Mv} (h : rdN xs a = 0) : instM a b xs = xs := by
  unfold instM
  have : ∀ m ∈ xs, (if m.2 = a then (m.1, b) else m) = m := fun m hm => by
    rw [if_neg]
    intro e
    unfold rdN at h
    rw [List.count_eq_zero] at h
    exact h (List.mem_map.2 ⟨m, hm, e⟩)
  rw [List.map_congr_left this, List.map_id']
theorem instM_rdN (a b : ByteArray) (hab : b ≠ a) : ∀ xs : List Mv, rdN (instM a b xs) a = 0 ∧ rdN (instM a b xs) b = rdN xs b + rdN xs a ∧ ∀ c, c ≠ a → c ≠ b → rdN (instM a b xs) c = rdN xs c
  | [] => ⟨rfl, rfl, fun _ _ _ => rfl⟩
  | x :: xs => by
    obtain ⟨h1, h2, h3⟩ := instM_rdN a b hab xs
    have e : instM a b (x :: xs) = (if x.2 = a then (x.1, b) else x) :: instM a b xs := rfl
    unfold rdN at *
    rw [e, List.map_cons, List.map_cons]
    by_cases hx : x.2 = a
    · rw [if_pos hx]
      refine ⟨?_, ?_, fun c hc hc2 => ?_⟩
      · rw [List.count_cons_of_ne (by exact hab), h1]
      · rw [List.count_cons_self, h2, hx, List.count_cons_of_ne (by exact fun e => hab e.symm), List.count_cons_self]; omega
      · rw [List.count_cons_of_ne (by exact fun e => hc2 e.symm), h3 c hc hc2, hx, List.count_cons_of_ne (by exact fun e => hc e.symm)]
    · rw [if_neg hx]
      refine ⟨?_, ?_, fun c hc hc2 => ?_⟩
      · rw [List.count_cons_of_ne hx, h1]
      · rw [List.count_cons, h2, List.count_cons_of_ne hx, List.count_cons]; omega
      · rw [List.count_cons, h3 c hc hc2, List.count_cons]
theorem rdN_zero {xs : List Mv} {a : ByteArray} : rdN xs a = 0 ↔ ∀ m ∈ xs, m.2 ≠ a := by
  unfold rdN
  rw [List.count_eq_zero]
  constructor
  · intro h m hm e; exact h (List.mem_map.2 ⟨m, hm, e⟩)
  · intro h hm
    obtain ⟨m, hm, e⟩ := List.mem_map.1 hm
    exact h m hm e
theorem rdN_erase (xs : List Mv) (i : Nat) (hi : i < xs.length) (a : ByteArray) : rdN xs a = rdN (xs.eraseIdx i) a + if xs[i].2 = a then 1 else 0 := by
  induction xs generalizing i with
  | nil => simp at hi
  | cons x xs ih =>
    cases i with
    | zero =>
      unfold rdN
      rw [List.eraseIdx_zero, List.tail_cons, List.map_cons, List.count_cons]
      simp
    | succ i =>
      have := ih i (by simpa using hi)
      unfold rdN at this ⊢
      rw [List.eraseIdx_cons_succ, List.map_cons, List.map_cons, List.count_cons, List.count_cons, this]
      simp only [List.getElem_cons_succ]; omega
theorem erase_mem {α : Type _} {xs : List α} {i : Nat} {m : α} (h : m ∈ xs.eraseIdx i) : m ∈ xs := (List.eraseIdx_sublist xs i).subset h
theorem erase_key {xs : List Mv} (hn : (xs.map (·.1)).Nodup) {i : Nat} (hi : i < xs.length) : ∀ m ∈ xs.eraseIdx i, m.1 ≠ xs[i].1 := by
  induction xs generalizing i with
  | nil => simp at hi
  | cons x xs ih =>
    rw [List.map_cons, List.nodup_cons] at hn
    intro m hm e
    cases i with
    | zero =>
      rw [List.eraseIdx_zero, List.tail_cons] at hm
      exact hn.1 (List.mem_map.2 ⟨m, hm, by simpa using e⟩)
    | succ i =>
      rw [List.eraseIdx_cons_succ, List.mem_cons] at hm
      simp only [List.getElem_cons_succ] at e
      rcases hm with rfl | hm
      · exact hn.1 (List.mem_map.2 ⟨xs[i]'(by simpa using hi), List.getElem_mem _, e.symm⟩)
      · exact ih hn.2 (by simpa using hi) m hm e
theorem erase_or {α : Type _} {xs : List α} {i : Nat} (hi : i < xs.length) {m : α} (h : m ∈ xs) : m = xs[i] ∨ m ∈ xs.eraseIdx i := by
  induction xs generalizing i with
  | nil => simp at hi
  | cons x xs ih =>
    cases i with
    | zero =>
      rw [List.mem_cons] at h
      rcases h with rfl | h
      · exact .inl rfl
      · exact .inr (by simpa using h)
    | succ i =>
      rw [List.mem_cons] at h
      rw [List.eraseIdx_cons_succ, List.mem_cons]
      rcases h with rfl | h
      · exact .inr (.inl rfl)
      · rcases ih (by simpa using hi) h with e | e
        · exact .inl (by simpa using e)
        · exact .inr (.inr e)
structure Wt (ws : List Mv) : Prop where
  keys : (ws.map (·.1)).Nodup
  to_ : ∀ m ∈ ws, isP m.1 = true
  from_ : ∀ m ∈ ws, isP m.2 = true ∨ isD m.2 = true ∨ m.2 = spT
  ne : ∀ m ∈ ws, m.1 ≠ m.2
  one : rdN ws spT ≤ 1
theorem aheadI_some {ws : List Mv} {i : Nat} (h : aheadI ws = some i) : ∃ hi : i < ws.length, rdN ws ws[i].1 = 0 := by
  unfold aheadI at h
  obtain ⟨h1, h2, _⟩ := List.findIdx?_eq_some_iff_getElem.1 h
  refine ⟨h1, ?_⟩
  unfold freeB at h2
  simpa using h2
theorem aheadI_none {ws : List Mv} (h : aheadI ws = none) : ∀ m ∈ ws, rdN ws m.1 ≠ 0 := by
  intro m hm e
  unfold aheadI at h
  have := List.findIdx?_eq_none_iff.1 h m hm
  unfold freeB at this
  simp [e] at this
theorem Wt.erase {ws : List Mv} (h : Wt ws) (i : Nat) : Wt (ws.eraseIdx i) := by
  refine ⟨h.keys.sublist ((List.eraseIdx_sublist ws i).map _), fun m hm => h.to_ m (erase_mem hm), fun m hm => h.from_ m (erase_mem hm), fun m hm => h.ne m (erase_mem hm), ?_⟩
  refine Nat.le_trans ?_ h.one
  unfold rdN
  exact ((List.eraseIdx_sublist ws i).map _).count_le _
theorem Wt.inst {ws : List Mv} (h : Wt ws) {a b : ByteArray} (_hab : b ≠ a) (hb : isP b = true ∨ b = spT) (hk : ∀ m ∈ ws, m.1 ≠ b) (h1 : rdN (instM a b ws) spT ≤ 1) : Wt (instM a b ws) := by
  refine ⟨by rw [instM_keys]; exact h.keys, fun m hm => ?_, fun m hm => ?_, fun m hm => ?_, h1⟩
  · obtain ⟨x, hx, e, _⟩ := instM_mem hm
    rw [e]; exact h.to_ x hx
  · obtain ⟨x, hx, e, (⟨e1, e2⟩ | ⟨e1, e2⟩)⟩ := instM_mem hm
    · rw [e2]
      rcases hb with hb | hb
      · exact .inl hb
      · exact .inr (.inr hb)
    · rw [e2]; exact h.from_ x hx
  · obtain ⟨x, hx, e, (⟨e1, e2⟩ | ⟨e1, e2⟩)⟩ := instM_mem hm
    · rw [e, e2]; exact hk x hx
    · rw [e2]; exact h.ne x hx
theorem perm_of_sub {α : Type _} [BEq α] [LawfulBEq α] : ∀ (l m : List α), l.Nodup → (∀ a ∈ l, a ∈ m) → m.length ≤ l.length → l.Perm m
  | [], m, _, _, hl => by
    have : m = [] := List.length_eq_zero_iff.1 (by simpa using hl)
    rw [this]
  | a :: l, m, hn, hs, hl => by
    rw [List.nodup_cons] at hn
    have ha : a ∈ m := hs a (by simp)
    have h1 := perm_of_sub l (m.erase a) hn.2 (fun b hb => (List.mem_erase_of_ne (fun (e : b = a) => hn.1 (by rw [← e]; exact hb))).2 (hs b (by simp [hb]))) (by
      rw [List.length_erase_of_mem ha]; simp only [List.length_cons] at hl; omega)
    exact (List.Perm.cons a h1).trans (List.perm_cons_erase ha).symm
theorem Wt.full {ws : List Mv} (h : Wt ws) (hn : aheadI ws = none) : (∀ m ∈ ws, rdN ws m.1 = 1) ∧ (∀ m ∈ ws, ∃ x ∈ ws, x.1 = m.2) ∧ rdN ws spT = 0 := by
  have hp : (ws.map (·.1)).Perm (ws.map (·.2)) := by
    refine perm_of_sub _ _ h.keys (fun a ha => ?_) (by simp)
    obtain ⟨m, hm, rfl⟩ := List.mem_map.1 ha
    have := aheadI_none hn m hm
    unfold rdN at this
    exact List.count_pos_iff.1 (Nat.pos_of_ne_zero this)
  have hx : ∀ m ∈ ws, ∃ x ∈ ws, x.1 = m.2 := fun m hm => by
    have := hp.mem_iff.2 (List.mem_map.2 ⟨m, hm, rfl⟩ : m.2 ∈ ws.map (·.2))
    obtain ⟨x, hx, e⟩ := List.mem_map.1 this
    exact ⟨x, hx, e⟩
  refine ⟨fun m hm => ?_, hx, ?_⟩
  · unfold rdN
    rw [← hp.count_eq]
    have h1 := (List.nodup_iff_count.1 h.keys) m.1
    have h2 : 0 < (ws.map (·.1)).count m.1 := List.count_pos_iff.2 (List.mem_map.2 ⟨m, hm, rfl⟩)
    omega
  · rw [rdN_zero]
    intro m hm e
    obtain ⟨x, hx, e2⟩ := hx m hm
    exact (isP_cases (h.to_ x hx)).2 (e2.trans e)
theorem Wt.some_ {ws : List Mv} (h : Wt ws) {i : Nat} (hi : i < ws.length) (_hf : rdN ws ws[i].1 = 0) : Wt (redM ws[i] (ws.eraseIdx i)) := by
  unfold redM
  split
  · exact h.erase i
  · next hd =>
    have hm := List.getElem_mem hi
    have hne := h.ne _ hm
    refine (h.erase i).inst hne (.inl (h.to_ _ hm)) (erase_key h.keys hi) ?_
    have ht : ws[i].1 ≠ spT := (isP_cases (h.to_ _ hm)).2
    obtain ⟨r1, r2, r3⟩ := instM_rdN ws[i].2 ws[i].1 hne (ws.eraseIdx i)
    by_cases e : ws[i].2 = spT
    · rw [e] at r1; rw [e, r1]; omega
    · rw [r3 _ (fun e' => e e'.symm) (fun e' => ht e'.symm)]
      exact (h.erase i).one
theorem Wt.none_ {ws : List Mv} (h : Wt ws) (h0 : 0 < ws.length) (hn : aheadI ws = none) : Wt (redM (spT, ws[0].1) ws) ∧ rdN (redM (spT, ws[0].1) ws) spT = 1 := by
  obtain ⟨f1, f2, f3⟩ := h.full hn
  have hm := List.getElem_mem h0
  have hp := isP_cases (h.to_ _ hm)
  have e : redM (spT, ws[0].1) ws = instM ws[0].1 spT ws := by
    unfold redM
    rw [if_neg]
    show ¬ isD ws[0].1 = true
    rw [hp.1]; decide
  obtain ⟨r1, r2, r3⟩ := instM_rdN ws[0].1 spT (fun e => hp.2 e.symm) ws
  have h1 : rdN (instM ws[0].1 spT ws) spT = 1 := by rw [r2, f3, f1 _ hm]
  rw [e]
  exact ⟨h.inst (fun e => hp.2 e.symm) (.inr rfl) (fun m hm => (isP_cases (h.to_ m hm)).2) (by omega), h1⟩
def ordF : Nat → List Mv → List Mv
  | 0, _ => []
  | _ + 1, [] => []
  | n + 1, x :: xs => match aheadI (x :: xs) with
    | some i => match (x :: xs)[i]? with
      | some m => m :: ordF n (redM m ((x :: xs).eraseIdx i))
      | none => []
    | none => (spT, x.1) :: ordF n (redM (spT, x.1) (x :: xs))
theorem ordF_nil (n : Nat) : ordF n [] = [] := by cases n <;> rfl
theorem ordF_some {n : Nat} {ws : List Mv} {i : Nat} (hi : i < ws.length) (h : aheadI ws = some i) : ordF (n + 1) ws = ws[i] :: ordF n (redM ws[i] (ws.eraseIdx i)) := by
  cases ws with
  | nil => simp at hi
  | cons x xs =>
    rw [ordF, h]
    simp only
    rw [List.getElem?_eq_getElem hi]
theorem ordF_none {n : Nat} {ws : List Mv} (h0 : 0 < ws.length) (h : aheadI ws = none) : ordF (n + 1) ws = (spT, ws[0].1) :: ordF n (redM (spT, ws[0].1) ws) := by
  cases ws with
  | nil => simp at h0
  | cons x xs =>
    rw [ordF, h]
    rfl
def muW (ws : List Mv) : Nat := 2 * ws.length + if rdN ws spT = 0 then 1 else 0
theorem muW_some {ws : List Mv} {i : Nat} (hi : i < ws.length) (d : Mv) : muW (redM d (ws.eraseIdx i)) + 1 ≤ muW ws := by
  unfold muW
  rw [redM_len, List.length_eraseIdx_of_lt hi]
  split <;> split <;> omega
theorem muW_none {ws : List Mv} (h : Wt ws) (h0 : 0 < ws.length) (hn : aheadI ws = none) : muW (redM (spT, ws[0].1) ws) + 1 ≤ muW ws := by
  have h1 := (h.none_ h0 hn).2
  have h2 := (h.full hn).2.2
  unfold muW
  rw [redM_len, h1, h2]
  simp
def takF : Nat → List Mv → List Mv
  | 0, _ => []
  | n + 1, xs => match aheadI xs with
    | some i => match xs[i]? with
      | some m => m :: takF n (xs.eraseIdx i)
      | none => []
    | none => []
theorem takF_some {n : Nat} {ws : List Mv} {i : Nat} (hi : i < ws.length) (h : aheadI ws = some i) : takF (n + 1) ws = ws[i] :: takF n (ws.eraseIdx i) := by
  rw [takF, h]
  simp only
  rw [List.getElem?_eq_getElem hi]
theorem takF_none {n : Nat} {ws : List Mv} (h : aheadI ws = none) : takF n ws = [] := by
  cases n with
  | zero => rfl
  | succ n => rw [takF, h]
theorem takF_len : ∀ n ws, (takF n ws).length ≤ ws.length
  | 0, _ => Nat.zero_le _
  | n + 1, ws => by
    rw [takF]
    cases h : aheadI ws with
    | none => exact Nat.zero_le _
    | some i =>
      obtain ⟨hi, _⟩ := aheadI_some h
      simp only
      rw [List.getElem?_eq_getElem hi]
      have := takF_len n (ws.eraseIdx i)
      rw [List.length_eraseIdx_of_lt hi] at this
      simp only [List.length_cons]; omega
theorem ordF_len : ∀ n ws, (ordF n ws).length ≤ n
  | 0, _ => Nat.le_refl _
  | n + 1, [] => Nat.zero_le _
  | n + 1, x :: xs => by
    rw [ordF]
    split
    · split
      · have := ordF_len n; simp only [List.length_cons]; exact Nat.succ_le_succ (this _)
      · exact Nat.zero_le _
    · simp only [List.length_cons]; exact Nat.succ_le_succ (ordF_len n _)
theorem busyF_Wt {xs : List Mv} (h : MV xs) : Wt (busyF xs 9) := by
  have hl : busyF xs 9 = lsF (fun p => srcM xs (nm p)) 9 := rfl
  have hMV : MV (busyF xs 9) := by rw [hl]; exact lsF_MV (SVal_M h)
  refine ⟨hMV.2, fun m hm => ?_, fun m hm => ?_, fun m hm => ?_, ?_⟩
  · have := hMV.1 m hm
    unfold mok at this; rw [Bool.and_eq_true] at this; exact this.1
  · have := hMV.1 m hm
    unfold mok at this; rw [Bool.and_eq_true] at this
    have h2 := this.2
    unfold isS at h2; rw [Bool.or_eq_true] at h2
    exact h2.elim .inl (fun h => .inr (.inl h))
  · rw [hl] at hm
    obtain ⟨p, _, hne, e⟩ := lsF_mem hm
    rw [e]; exact fun e => hne e.symm
  · have : rdN (busyF xs 9) spT = 0 := by
      rw [rdN_zero]
      intro m hm e
      have := hMV.1 m hm
      unfold mok at this; rw [Bool.and_eq_true] at this
      have h2 := this.2
      rw [e] at h2
      revert h2; decide +kernel
    omega
def ordM (xs : List Mv) : List Mv := if mvalid xs then ordF 19 (busyF xs 9) else []
def takM (xs : List Mv) : List Mv := takF 9 (busyF xs 9)
end Go.PM

