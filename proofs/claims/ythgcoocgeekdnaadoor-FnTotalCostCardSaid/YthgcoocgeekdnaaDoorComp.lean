import Derived.Test.YthgcoocgeekdnaaDoorBusyP
import Derived.Test.YthgcoocgeekdnaaDoorList
namespace Go.PM
open Go.RowKit
/-- the moves that give to place p the value of S p, of the first k places -/
def lsH (S : Nat → ByteArray) (p : Nat) : Bool := decide (S p ≠ nm p)
def lsF (S : Nat → ByteArray) (k : Nat) : List Mv := ((List.range k).filter (lsH S)).map fun p => (nm p, S p)
theorem lsF_yes (S : Nat → ByteArray) (k : Nat) (h : lsH S k = true) : lsF S (k + 1) = lsF S k ++ [(nm k, S k)] := by
  simp [lsF, List.range_succ, h]
theorem lsF_no (S : Nat → ByteArray) (k : Nat) (h : lsH S k = false) : lsF S (k + 1) = lsF S k := by
  simp [lsF, List.range_succ, h]
theorem lsF_len (S : Nat → ByteArray) (k : Nat) : (lsF S k).length ≤ k := by
  unfold lsF
  rw [List.length_map]
  have := List.length_filter_le (lsH S) (List.range k)
  simpa using this
theorem lsF_congr {S T : Nat → ByteArray} {k : Nat} (h : ∀ p, p < k → S p = T p) : lsF S k = lsF T k := by
  have e : (List.range k).filter (lsH S) = (List.range k).filter (lsH T) := List.filter_congr fun p hp => by
    have : p < k := by simpa using hp
    rw [lsH, lsH, h p this]
  unfold lsF
  rw [e]
  refine List.map_congr_left fun p hp => ?_
  have : p < k := by have := (List.mem_filter.1 hp).1; simpa using this
  rw [h p this]
theorem lsF_keys (S : Nat → ByteArray) : ((lsF S 9).map (·.1)).Nodup := by
  have e : (lsF S 9).map (·.1) = ((List.range 9).filter (lsH S)).map nm := by simp [lsF]
  rw [e]
  have : ∀ l : List Nat, l.Nodup → (∀ p ∈ l, p < 9) → (l.map nm).Nodup := by
    intro l
    induction l with
    | nil => intro _ _; simp
    | cons a l ih =>
      intro h1 h2
      rw [List.nodup_cons] at h1
      rw [List.map_cons, List.nodup_cons]
      refine ⟨fun hm => ?_, ih h1.2 fun p hp => h2 p (by simp [hp])⟩
      obtain ⟨b, hb, e⟩ := List.mem_map.1 hm
      have := nm_inj (h2 b (by simp [hb])) (h2 a (by simp)) e
      subst this; exact h1.1 hb
  exact this _ ((List.nodup_range (n := 9)).sublist List.filter_sublist) (fun p hp => by
    have := (List.mem_filter.1 hp).1; simpa using this)
theorem lsF_mem {S : Nat → ByteArray} {m : Mv} (h : m ∈ lsF S 9) : ∃ p, p < 9 ∧ S p ≠ nm p ∧ m = (nm p, S p) := by
  obtain ⟨p, hp, rfl⟩ := List.mem_map.1 h
  obtain ⟨h1, h2⟩ := List.mem_filter.1 hp
  exact ⟨p, by simpa using h1, by simpa [lsH] using h2, rfl⟩
/-- a source function whose values are places or digits -/
def SVal (S : Nat → ByteArray) : Prop := ∀ p, p < 9 → isS (S p) = true
theorem lsF_MV {S : Nat → ByteArray} (h : SVal S) : MV (lsF S 9) := by
  refine ⟨fun m hm => ?_, lsF_keys S⟩
  obtain ⟨p, hp, _, rfl⟩ := lsF_mem hm
  unfold mok
  rw [isP_nm hp, h p hp]; rfl
theorem lsF_src (S : Nat → ByteArray) {p : Nat} (hp : p < 9) : srcM (lsF S 9) (nm p) = S p := by
  unfold srcM
  cases hf : (lsF S 9).find? (fun x => decide (x.1 = nm p)) with
  | none =>
    by_cases hh : S p = nm p
    · exact hh.symm
    · refine absurd (List.find?_eq_none.1 hf (nm p, S p) ?_) (by simp)
      exact List.mem_map.2 ⟨p, List.mem_filter.2 ⟨by simpa using hp, by simpa [lsH] using hh⟩, rfl⟩
  | some x =>
    have e1 : x.1 = nm p := by simpa using List.find?_some hf
    obtain ⟨q, hq, _, rfl⟩ := lsF_mem (List.mem_of_find?_eq_some hf)
    have := nm_inj hq hp e1
    subst this; rfl
theorem nm_ne (p : Nat) : nm p ≠ emp := by
  intro h
  have := congrArg ByteArray.size h
  cases this
theorem srcT_ne (f : Nat → ByteArray) (p : Nat) : srcT f p ≠ emp := by
  unfold srcT
  split
  · exact nm_ne p
  · next h => exact h

/-- the source function of one behind the other -/
def cmpF (S T : Nat → ByteArray) (p : Nat) : ByteArray := if isP (T p) then S (pidx (T p)) else T p
def cmpM (xs ys : List Mv) (p : Nat) : ByteArray := cmpF (fun q => srcM xs (nm q)) (fun q => srcM ys (nm q)) p
theorem cmpM_eq (xs ys : List Mv) (p : Nat) : cmpM xs ys p = if isP (srcM ys (nm p)) then srcM xs (srcM ys (nm p)) else srcM ys (nm p) := by
  unfold cmpM cmpF
  by_cases h : isP (srcM ys (nm p)) = true
  · rw [if_pos h, if_pos h]
    show srcM xs (nm (pidx (srcM ys (nm p)))) = _
    rw [(pidx_spec h).2]
  · rw [if_neg h, if_neg h]
theorem cmpF_assoc (A B C : Nat → ByteArray) (p : Nat) : cmpF (cmpF A B) C p = cmpF A (cmpF B C) p := by
  unfold cmpF
  by_cases h : isP (C p) = true
  · rw [if_pos h, if_pos h]
  · rw [if_neg h, if_neg h, if_neg h]
theorem cmpF_id (T : Nat → ByteArray) (p : Nat) : cmpF nm T p = T p := by
  unfold cmpF
  by_cases h : isP (T p) = true
  · rw [if_pos h, (pidx_spec h).2]
  · rw [if_neg h]
theorem cmpF_nm (S : Nat → ByteArray) {p : Nat} (hp : p < 9) : cmpF S nm p = S p := by
  unfold cmpF
  rw [if_pos (isP_nm hp), pidx_nm hp]
theorem cmpF_congr {A B C D : Nat → ByteArray} (h1 : ∀ p, p < 9 → A p = C p) (h2 : ∀ p, p < 9 → B p = D p) {p : Nat} (hp : p < 9) : cmpF A B p = cmpF C D p := by
  unfold cmpF
  rw [h2 p hp]
  by_cases h : isP (D p) = true
  · rw [if_pos h, if_pos h, h1 _ (pidx_spec h).1]
  · rw [if_neg h, if_neg h]
theorem isS_nm {p : Nat} (h : p < 9) : isS (nm p) = true := by unfold isS; rw [isP_nm h]; rfl
theorem SVal_nm : SVal nm := fun _ h => isS_nm h
theorem SVal_cmp {A B : Nat → ByteArray} (ha : SVal A) (hb : SVal B) : SVal (cmpF A B) := by
  intro p hp
  unfold cmpF
  by_cases h : isP (B p) = true
  · rw [if_pos h]; exact ha _ (pidx_spec h).1
  · rw [if_neg h]; exact hb p hp
theorem SVal_M {xs : List Mv} (h : MV xs) : SVal fun q => srcM xs (nm q) := by
  intro p hp
  show isS (srcM xs (nm p)) = true
  unfold srcM
  cases hf : xs.find? (fun m => decide (m.1 = nm p)) with
  | none => exact isS_nm hp
  | some m =>
    have := h.1 m (List.mem_of_find?_eq_some hf)
    unfold mok at this; rw [Bool.and_eq_true] at this
    exact this.2
/-- n times one behind the other -/
def pwF (S : Nat → ByteArray) : Nat → Nat → ByteArray
  | 0 => nm
  | n + 1 => cmpF (pwF S n) S
theorem pwF_left (S : Nat → ByteArray) : ∀ n p, p < 9 → cmpF S (pwF S n) p = pwF S (n + 1) p
  | 0, p, hp => by
    show cmpF S nm p = cmpF nm S p
    rw [cmpF_nm S hp, cmpF_id]
  | n + 1, p, hp => by
    show cmpF S (cmpF (pwF S n) S) p = cmpF (pwF S (n + 1)) S p
    rw [← cmpF_assoc]
    exact cmpF_congr (fun q hq => pwF_left S n q hq) (fun _ _ => rfl) hp
theorem pwF_congr {S T : Nat → ByteArray} (h : ∀ p, p < 9 → S p = T p) : ∀ n p, p < 9 → pwF S n p = pwF T n p
  | 0, _, _ => rfl
  | n + 1, _, hp => cmpF_congr (fun q hq => pwF_congr h n q hq) h hp
theorem pwF_two (S : Nat → ByteArray) : ∀ n p, p < 9 → pwF (cmpF S S) n p = pwF S (2 * n) p
  | 0, _, _ => rfl
  | n + 1, p, hp => by
    show cmpF (pwF (cmpF S S) n) (cmpF S S) p = _
    rw [show 2 * (n + 1) = 2 * n + 1 + 1 by omega]
    show _ = cmpF (cmpF (pwF S (2 * n)) S) S p
    rw [cmpF_assoc]
    exact cmpF_congr (fun q hq => pwF_two S n q hq) (fun _ _ => rfl) hp
theorem SVal_pw {S : Nat → ByteArray} (h : SVal S) : ∀ n, SVal (pwF S n)
  | 0 => SVal_nm
  | n + 1 => SVal_cmp (SVal_pw h n) h
theorem pwF_add (S : Nat → ByteArray) (m : Nat) : ∀ n p, p < 9 → pwF S (m + n) p = cmpF (pwF S m) (pwF S n) p
  | 0, p, hp => (cmpF_nm _ hp).symm
  | n + 1, p, hp => by
    show cmpF (pwF S (m + n)) S p = cmpF (pwF S m) (cmpF (pwF S n) S) p
    rw [← cmpF_assoc]
    exact cmpF_congr (fun q hq => pwF_add S m n q hq) (fun _ _ => rfl) hp

/-- tables: the ones behind the others, and without idle moves -/
def behF (f : Nat → ByteArray) (s : ByteArray) : ByteArray := if isP s then srcT f (pidx s) else s
def thenF (f g : Nat → ByteArray) (p : Nat) : ByteArray := behF f (srcT g p)
theorem thenF_cmp (f g : Nat → ByteArray) (p : Nat) : thenF f g p = cmpF (srcT f) (srcT g) p := rfl
theorem thenF_ne (f g : Nat → ByteArray) (p : Nat) : thenF f g p ≠ emp := by
  unfold thenF behF
  split
  · exact srcT_ne _ _
  · exact srcT_ne _ _
theorem srcT_then (f g : Nat → ByteArray) (p : Nat) : srcT (thenF f g) p = cmpF (srcT f) (srcT g) p := by
  unfold srcT
  rw [if_neg (thenF_ne f g p)]
  rfl
def noIdle (t : Nat → ByteArray) (p : Nat) : ByteArray := if t p = nm p then emp else t p
theorem mvT_idle (t : Nat → ByteArray) : mvT (noIdle t) (List.range 9) = lsF (srcT t) 9 := by
  unfold mvT lsF
  have e : (List.range 9).filter (hasT (noIdle t)) = (List.range 9).filter (lsH (srcT t)) := List.filter_congr fun p _ => by
    unfold hasT lsH noIdle srcT
    by_cases h1 : t p = emp
    · have : ¬ t p = nm p := fun e => nm_ne p (e ▸ h1)
      simp [h1]
    · by_cases h2 : t p = nm p
      · simp [h2]
      · simp [h1, h2]
  rw [e]
  refine List.map_congr_left fun p hp => ?_
  have h := (List.mem_filter.1 hp).2
  unfold lsH at h
  have h : srcT t p ≠ nm p := by simpa using h
  unfold noIdle srcT at *
  by_cases h1 : t p = emp
  · rw [if_pos h1] at h; exact absurd rfl h
  · rw [if_neg h1] at h ⊢
    rw [if_neg h]
theorem srcT_M {xs : List Mv} (h : MV xs) {p : Nat} (hp : p < 9) : srcT (tabOf xs) p = srcM xs (nm p) := srcM_nm h hp
theorem srcT_zero (p : Nat) : srcT (fun _ => emp) p = nm p := rfl

/-- what the functions answer -/
def compM (xs ys : List Mv) : List Mv := if mvalid xs && mvalid ys then lsF (cmpM xs ys) 9 else []
def powM (xs : List Mv) (n : Int) : List Mv := if mvalid xs && (decide (0 ≤ n) && decide (n ≤ 60)) then lsF (pwF (fun q => srcM xs (nm q)) n.toNat) 9 else []
theorem compM_tab {xs ys : List Mv} (h1 : MV xs) (h2 : MV ys) : mvT (noIdle (thenF (tabOf xs) (tabOf ys))) (List.range 9) = compM xs ys := by
  have m1 : mvalid xs = true := by simpa [mvalid] using h1
  have m2 : mvalid ys = true := by simpa [mvalid] using h2
  rw [mvT_idle, compM, m1, m2]
  refine lsF_congr fun p hp => ?_
  rw [srcT_then]
  exact cmpF_congr (fun q hq => srcT_M h1 hq) (fun q hq => srcT_M h2 hq) hp
/-- spec's way: the moves behind moves that are as moves once more -/
theorem cmpM_pw (xs : List Mv) (n : Nat) : lsF (cmpM (lsF (pwF (fun q => srcM xs (nm q)) n) 9) xs) 9 = lsF (pwF (fun q => srcM xs (nm q)) (n + 1)) 9 :=
  lsF_congr fun _ hp => cmpF_congr (fun _ hq => lsF_src _ hq) (fun _ _ => rfl) hp
theorem lsF_nm : lsF nm 9 = [] := by
  unfold lsF
  rw [List.filter_eq_nil_iff.2]
  · rfl
  · intro p _; simp [lsH]
/-- the loop's own invariant: what is done, and what is done n times more -/
def PwInv (f : Nat → ByteArray) (N : Nat) (d x : Nat → ByteArray) (n : Nat) : Prop := ∀ p, p < 9 → cmpF (srcT d) (pwF (srcT x) n) p = pwF (srcT f) N p
theorem PwInv_start (f : Nat → ByteArray) (N : Nat) : PwInv f N (fun _ => emp) f N := fun p _ => cmpF_id _ p
theorem PwInv_odd {f d x : Nat → ByteArray} {N n : Nat} (h : PwInv f N d x n) (h1 : n % 2 = 1) : PwInv f N (thenF d x) (thenF x x) (n / 2) := by
  intro p hp
  rw [← h p hp]
  have e : n = 2 * (n / 2) + 1 := by omega
  have e1 : ∀ q, q < 9 → pwF (srcT (thenF x x)) (n / 2) q = pwF (srcT x) (2 * (n / 2)) q := fun q hq => by
    rw [pwF_congr (fun r _ => srcT_then x x r) _ q hq]
    exact pwF_two _ _ q hq
  rw [cmpF_congr (fun q _ => srcT_then d x q) e1 hp, cmpF_assoc]
  refine cmpF_congr (fun _ _ => rfl) (fun q hq => ?_) hp
  rw [pwF_left _ _ q hq, ← e]
theorem PwInv_even {f d x : Nat → ByteArray} {N n : Nat} (h : PwInv f N d x n) (h1 : n % 2 = 0) : PwInv f N d (thenF x x) (n / 2) := by
  intro p hp
  rw [← h p hp]
  have e : n = 2 * (n / 2) := by omega
  refine cmpF_congr (fun _ _ => rfl) (fun q hq => ?_) hp
  rw [pwF_congr (fun r _ => srcT_then x x r) _ q hq, pwF_two _ _ q hq, ← e]
theorem PwInv_end {f d x : Nat → ByteArray} {N : Nat} (h : PwInv f N d x 0) {p : Nat} (hp : p < 9) : srcT d p = pwF (srcT f) N p := by
  rw [← h p hp]; exact (cmpF_nm _ hp).symm
end Go.PM
