import Derived.Test.YthgcoocgeekdnaaGreatDoorComp
import Derived.Test.YthgcoocgeekdnaaGreatDoorLeaves
import Derived.Test.YthgcoocgeekdnaaGreatDoorBusy
import Derived.Test.YthgcoocgeekdnaaGreatDoorPm
import Derived.Test.YthgcoocgeekdnaaGreatDoorReaders
import Derived.Test.YthgcoocgeekdnaaGreatDoorSource
import Derived.Test.YthgcoocgeekdnaaGreatDoorNamesIn
import Derived.Test.YthgcoocgeekdnaaGreatDoorHar
import Derived.Test.YthgcoocgeekdnaaGreatDoorCut
import Derived.LaidEqlPtr
import Derived.Test.YthgcoocgeekdnaaGreatDoorTail
import Derived.Test.YthgcoocgeekdnaaGreatDoorNames
import Derived.Test.YthgcoocgeekdnaaGreatDoorRange
import Derived.Test.YthgcoocgeekdnaaGreatDoorApp
namespace Go.PM
open Go.RowKit
theorem namesW_emp {h : Nat → Bool} : namesW h = emp ↔ ∀ p, p < 9 → h p = false := by
  have e : namesW h = emp ↔ (List.range 9).filter h = [] := by
    constructor
    · intro e
      have := congrArg (fun s => s.data.toList.length) e
      simp only [namesW, namesL, List.length_map] at this
      exact List.length_eq_zero_iff.1 this
    · intro e
      rw [namesW, namesL, e]; rfl
  rw [e, List.filter_eq_nil_iff]
  constructor
  · intro g p hp; simpa using g p (by simpa using hp)
  · intro g p hp; simpa using g p (by simpa using hp)
theorem namesW_one {p0 : Nat} (h0 : p0 < 9) : namesW (fun p => decide (p = p0)) = nm p0 := by
  match p0, h0 with
  | 0, _ | 1, _ | 2, _ | 3, _ | 4, _ | 5, _ | 6, _ | 7, _ | 8, _ => decide +kernel
/-- each place is the source of one -/
def Exch (S : Nat → ByteArray) : Prop := ∀ q, q < 9 → ∃ p, p < 9 ∧ S p = nm q
theorem leaf_exch (f : Nat → ByteArray) : namesW (leafH f) = emp ↔ Exch (srcT f) := by
  rw [namesW_emp]
  constructor
  · intro h q hq
    have h1 := h q hq
    unfold leafH at h1
    by_cases h2 : srcT f q = nm q
    · exact ⟨q, hq, h2⟩
    · have h3 : ¬ namesW (rdH f (nm q)) = emp := by simpa [h2] using h1
      rw [namesW_emp] at h3
      obtain ⟨p, h4⟩ := Classical.not_forall.1 h3
      obtain ⟨hp, h5⟩ := Classical.not_imp.1 h4
      have h6 : rdH f (nm q) p = true := by simpa using h5
      unfold rdH at h6
      rw [Bool.and_eq_true] at h6
      exact ⟨p, hp, by simpa using h6.2⟩
  · intro h q hq
    obtain ⟨p, hp, e⟩ := h q hq
    unfold leafH
    by_cases h2 : srcT f q = nm q
    · simp [h2]
    · have hne : nm p ≠ nm q := fun e2 => by
        have := nm_inj hp hq e2
        subst this; exact h2 e
      have : namesW (rdH f (nm q)) ≠ emp := fun h3 => by
        have := namesW_emp.1 h3 p hp
        unfold rdH at this
        simp [hne, e] at this
      simp [this]
theorem Exch.congr {S T : Nat → ByteArray} (h : ∀ p, p < 9 → S p = T p) (e : Exch S) : Exch T := fun q hq => by
  obtain ⟨p, hp, e1⟩ := e q hq
  exact ⟨p, hp, (h p hp).symm.trans e1⟩
theorem exch_drop {S : Nat → ByteArray} {p' : Nat} (hp' : p' < 9) (h : ∀ q, q < 9 → ∃ p, p < 9 ∧ p ≠ p' ∧ S p = nm q) : False := by
  have n1 : ((List.range 9).map nm).Nodup := by decide +kernel
  have h1 := nodup_le ((List.range 9).map nm) (((List.range 9).erase p').map S) n1 (fun a ha => by
    obtain ⟨q, hq, rfl⟩ := List.mem_map.1 ha
    obtain ⟨p, hp, hne, e⟩ := h q (by simpa using hq)
    exact List.mem_map.2 ⟨p, (List.mem_erase_of_ne hne).2 (by simpa using hp), e⟩)
  have h2 := List.length_erase_of_mem (show p' ∈ List.range 9 by simpa using hp')
  simp only [List.length_map, List.length_range] at h1 h2
  omega
theorem Exch.inj {S : Nat → ByteArray} (h : Exch S) {p p' : Nat} (hp : p < 9) (hp' : p' < 9) (e : S p = S p') : p = p' := by
  rcases Nat.decEq p p' with hne | he
  · exfalso
    refine exch_drop (S := S) hp' fun q hq => ?_
    obtain ⟨r, hr, e1⟩ := h q hq
    by_cases h1 : r = p'
    · subst h1; exact ⟨p, hp, hne, e.trans e1⟩
    · exact ⟨r, hr, h1, e1⟩
  · exact he
theorem Exch.place {S : Nat → ByteArray} (h : Exch S) {p : Nat} (hp : p < 9) : isP (S p) = true := by
  rcases Bool.eq_false_or_eq_true (isP (S p)) with h1 | h1
  · exact h1
  · exfalso
    refine exch_drop (S := S) hp fun q hq => ?_
    obtain ⟨r, hr, e1⟩ := h q hq
    refine ⟨r, hr, fun e => ?_, e1⟩
    subst e
    rw [e1, isP_nm hq] at h1
    cases h1
/-- the place that has q as its source -/
def invI (S : Nat → ByteArray) (q : Nat) : Nat := ((List.range 9).find? fun p => decide (S p = nm q)).getD 0
def invF (S : Nat → ByteArray) (q : Nat) : ByteArray := nm (invI S q)
theorem Exch.inv {S : Nat → ByteArray} (h : Exch S) {q : Nat} (hq : q < 9) : invI S q < 9 ∧ S (invI S q) = nm q := by
  obtain ⟨p, hp, e⟩ := h q hq
  unfold invI
  cases hf : (List.range 9).find? (fun p => decide (S p = nm q)) with
  | none => exact absurd (List.find?_eq_none.1 hf p (by simpa using hp)) (by simp [e])
  | some r =>
    have h1 := List.find?_some hf
    have h2 := List.mem_of_find?_eq_some hf
    exact ⟨by simpa using h2, by simpa using h1⟩
theorem Exch.inv_iff {S : Nat → ByteArray} (h : Exch S) {q p : Nat} (hq : q < 9) (hp : p < 9) : S p = nm q ↔ p = invI S q := by
  have h1 := h.inv hq
  exact ⟨fun e => h.inj hp h1.1 (e.trans h1.2.symm), fun e => by rw [e]; exact h1.2⟩
theorem invI_congr {S T : Nat → ByteArray} (h : ∀ p, p < 9 → S p = T p) (q : Nat) : invI S q = invI T q := by
  have key : ∀ l : List Nat, (∀ p ∈ l, p < 9) → l.find? (fun p => decide (S p = nm q)) = l.find? (fun p => decide (T p = nm q)) := by
    intro l
    induction l with
    | nil => intro _; rfl
    | cons a l ih =>
      intro hl
      rw [List.find?_cons, List.find?_cons, h a (hl a (by simp)), ih (fun p hp => hl p (by simp [hp]))]
  unfold invI
  rw [key _ (fun p hp => by simpa using hp)]

/-- impl's table of what gives all back, of the first k places -/
def bkF (f : Nat → ByteArray) : Nat → Nat → ByteArray
  | 0 => fun _ => emp
  | k + 1 => upd (bkF f k) (pidx (srcT f k)) (nm k)
theorem bkF_at {f : Nat → ByteArray} (h : Exch (srcT f)) : ∀ k, k ≤ 9 → ∀ p, p < k → bkF f k (pidx (srcT f p)) = nm p := by
  intro k
  induction k with
  | zero => intro _ p hp; omega
  | succ k ih =>
    intro hk p hp
    show upd (bkF f k) (pidx (srcT f k)) (nm k) (pidx (srcT f p)) = nm p
    unfold upd
    by_cases e : pidx (srcT f p) = pidx (srcT f k)
    · rw [if_pos e]
      have h1 := pidx_spec (h.place (p := p) (by omega))
      have h2 := pidx_spec (h.place (p := k) (by omega))
      have : srcT f p = srcT f k := by rw [← h1.2, ← h2.2, e]
      rw [h.inj (by omega) (by omega) this]
    · rw [if_neg e]
      rcases Nat.lt_or_ge p k with h1 | h1
      · exact ih (by omega) p h1
      · have : p = k := by omega
        subst this; exact absurd rfl e
theorem bkF_inv {f : Nat → ByteArray} (h : Exch (srcT f)) {q : Nat} (hq : q < 9) : srcT (bkF f 9) q = invF (srcT f) q := by
  have h1 := h.inv hq
  have h2 := bkF_at h 9 (Nat.le_refl _) _ h1.1
  rw [h1.2, pidx_nm hq] at h2
  show (if bkF f 9 q = emp then nm q else bkF f 9 q) = _
  rw [h2, if_neg (nm_ne _)]; rfl
/-- spec's list of readers, of the first k places -/
def unH (xs : List Mv) (q : Nat) : Bool := decide (namesW (rsH xs (nm q)) ≠ emp)
def unL (xs : List Mv) (k : Nat) : List Mv := ((List.range k).filter (unH xs)).map fun q => (nm q, namesW (rsH xs (nm q)))
theorem unL_yes (xs : List Mv) (k : Nat) (h : unH xs k = true) : unL xs (k + 1) = unL xs k ++ [(nm k, namesW (rsH xs (nm k)))] := by
  simp [unL, List.range_succ, h]
theorem unL_no (xs : List Mv) (k : Nat) (h : unH xs k = false) : unL xs (k + 1) = unL xs k := by
  simp [unL, List.range_succ, h]
theorem unL_len (xs : List Mv) (k : Nat) : (unL xs k).length ≤ k := by
  unfold unL
  rw [List.length_map]
  have := List.length_filter_le (unH xs) (List.range k)
  simpa using this
theorem rs_inv {xs : List Mv} (h : Exch fun p => srcM xs (nm p)) {q : Nat} (hq : q < 9) :
    namesW (rsH xs (nm q)) = if invI (fun p => srcM xs (nm p)) q = q then emp else invF (fun p => srcM xs (nm p)) q := by
  have h1 := h.inv hq
  have e : ∀ p, p < 9 → rsH xs (nm q) p = (decide (p ≠ q) && decide (p = invI (fun p => srcM xs (nm p)) q)) := fun p hp => by
    unfold rsH
    congr 1
    · exact decide_eq_decide.2 ⟨fun hne e => hne (by rw [e]), fun hne e => hne (nm_inj hp hq e)⟩
    · exact decide_eq_decide.2 (h.inv_iff hq hp)
  rw [namesW_congr e]
  by_cases h2 : invI (fun p => srcM xs (nm p)) q = q
  · rw [if_pos h2, h2]
    refine namesW_emp.2 fun p _ => ?_
    by_cases h3 : p = q <;> simp [h3]
  · rw [if_neg h2]
    refine (namesW_congr (g := fun p => decide (p = invI (fun p => srcM xs (nm p)) q)) fun p _ => ?_).trans (namesW_one h1.1)
    by_cases h3 : p = invI (fun p => srcM xs (nm p)) q
    · rw [h3]; simp [h2]
    · simp [h3]
theorem unL_inv {xs : List Mv} (h : Exch fun p => srcM xs (nm p)) : unL xs 9 = lsF (invF fun p => srcM xs (nm p)) 9 := by
  have e : (List.range 9).filter (unH xs) = (List.range 9).filter (lsH (invF fun p => srcM xs (nm p))) := List.filter_congr fun q hq => by
    have hq : q < 9 := by simpa using hq
    unfold unH lsH
    rw [rs_inv h hq]
    by_cases h2 : invI (fun p => srcM xs (nm p)) q = q
    · rw [if_pos h2]; unfold invF; rw [h2]; simp
    · rw [if_neg h2]
      have h3 : invF (fun p => srcM xs (nm p)) q ≠ nm q := fun e => h2 (nm_inj (h.inv hq).1 hq e)
      have h4 : invF (fun p => srcM xs (nm p)) q ≠ emp := nm_ne _
      simp [h3, h4]
  unfold unL lsF
  rw [e]
  refine List.map_congr_left fun q hq => ?_
  obtain ⟨h1, h2⟩ := List.mem_filter.1 hq
  have hq : q < 9 := by simpa using h1
  unfold lsH at h2
  have h2 : invF (fun p => srcM xs (nm p)) q ≠ nm q := by simpa using h2
  rw [rs_inv h hq, if_neg]
  intro e
  exact h2 (by unfold invF; rw [e])
/-- what the functions answer -/
def exchB (xs : List Mv) : Bool := mvalid xs && decide (leavesB xs = emp)
theorem exchB_iff {xs : List Mv} : exchB xs = true ↔ MV xs ∧ Exch (srcT (tabOf xs)) := by
  unfold exchB leavesB
  rw [Bool.and_eq_true, decide_eq_true_eq, leaf_exch]
  simp [mvalid]
theorem exchB_M {xs : List Mv} (h : exchB xs = true) : Exch fun p => srcM xs (nm p) := by
  obtain ⟨h1, h2⟩ := exchB_iff.1 h
  exact h2.congr fun p hp => srcT_M h1 hp
def undoM (xs : List Mv) : List Mv := if exchB xs then lsF (invF fun p => srcM xs (nm p)) 9 else []
theorem undoM_tab {xs : List Mv} (h : exchB xs = true) : mvT (noIdle (bkF (tabOf xs) 9)) (List.range 9) = undoM xs := by
  obtain ⟨h1, h2⟩ := exchB_iff.1 h
  rw [undoM, if_pos h, mvT_idle]
  refine lsF_congr fun q hq => ?_
  rw [bkF_inv h2 hq, invF, invF, invI_congr (fun p hp => srcT_M h1 hp)]
def lostH (xs : List Mv) (p : Nat) : Bool := decide (srcM xs (nm p) ≠ nm p) && decide (namesW (rsH xs (nm p)) = emp)
theorem lost_leaf {xs : List Mv} (h : MV xs) : namesW (lostH xs) = leavesB xs := by
  refine namesW_congr fun p hp => ?_
  unfold lostH leafH
  rw [rsH_rdH h, srcM_nm h hp]
end Go.PM
namespace Go.PM
open Go.RowKit
theorem compM_len (xs ys : List Mv) : (compM xs ys).length ≤ 9 := by
  unfold compM
  split
  · exact lsF_len _ 9
  · simp
theorem compM_yes {xs ys : List Mv} (h1 : mvalid xs = true) (h2 : mvalid ys = true) : compM xs ys = lsF (cmpM xs ys) 9 := by rw [compM, h1, h2]; rfl
theorem compM_no {xs ys : List Mv} (h : (mvalid xs && mvalid ys) = false) : compM xs ys = [] := by rw [compM, h]; rfl
def pwL (xs : List Mv) (n : Nat) : List Mv := lsF (pwF (fun q => srcM xs (nm q)) n) 9
theorem pwL_zero (xs : List Mv) : pwL xs 0 = [] := lsF_nm
theorem pwL_succ (xs : List Mv) (n : Nat) : lsF (cmpM (pwL xs n) xs) 9 = pwL xs (n + 1) := cmpM_pw xs n
theorem pwL_len (xs : List Mv) (n : Nat) : (pwL xs n).length ≤ 9 := lsF_len _ 9
def powOk (xs : List Mv) (n : Int) : Bool := mvalid xs && (decide (0 ≤ n) && decide (n ≤ 60))
theorem powM_yes {xs : List Mv} {n : Int} (h : powOk xs n = true) : powM xs n = pwL xs n.toNat := by
  unfold powOk at h; rw [powM, h]; rfl
theorem powM_no {xs : List Mv} {n : Int} (h : powOk xs n = false) : powM xs n = [] := by
  unfold powOk at h; rw [powM, h]; rfl
theorem powM_len (xs : List Mv) (n : Int) : (powM xs n).length ≤ 9 := by
  unfold powM
  split
  · exact lsF_len _ 9
  · simp
end Go.PM
namespace Go.Proofs.YthgcoocgeekdnaaGreatDoor
open Go.RowKit Go.PM

end Go.Proofs.YthgcoocgeekdnaaGreatDoor
namespace Go.PW

/-- the chain from s on: nx says whence a value comes, none where it stays -/
def orb (nx : Nat → Option Nat) (s : Nat) : Nat → Option Nat
  | 0 => some s
  | k + 1 => (orb nx s k).bind nx
def wayF (nx : Nat → Option Nat) : Nat → List Nat → Option Nat → List Nat
  | 0, acc, _ => acc
  | _ + 1, acc, none => acc
  | n + 1, acc, some i => if i ∈ acc then acc else wayF nx n (acc ++ [i]) (nx i)
def way (nx : Nat → Option Nat) (s : Nat) : List Nat := wayF nx 20 [] (some s)
structure Nice (nx : Nat → Option Nat) : Prop where
  lt : ∀ i j, nx i = some j → j < 19
  irr : ∀ i, nx i ≠ some i
  low : ∀ i j, nx i = some j → i < 9

variable {nx : Nat → Option Nat}
theorem nodup_le : ∀ (l : List Nat) (n : Nat), l.Nodup → (∀ a ∈ l, a < n) → l.length ≤ n := by
  intro l n h1 h2
  have := Go.PM.nodup_le l (List.range n) h1 (fun a ha => List.mem_range.2 (h2 a ha))
  simpa using this

/-- what an accumulator of the way holds -/
structure Acc (nx : Nat → Option Nat) (s : Nat) (acc : List Nat) : Prop where
  at_ : ∀ j, j < acc.length → acc[j]? = orb nx s j
  nodup : acc.Nodup
  lt : ∀ a ∈ acc, a < 19
theorem Acc.nil (s : Nat) : Acc nx s [] := ⟨fun j h => by simp at h, List.nodup_nil, fun a h => by simp at h⟩
theorem orb_lt (hn : Nice nx) {s : Nat} (hs : s < 19) : ∀ k i, orb nx s k = some i → i < 19 := by
  intro k i h
  cases k with
  | zero => simp only [orb, Option.some.injEq] at h; omega
  | succ k =>
    simp only [orb, Option.bind_eq_some_iff] at h
    obtain ⟨j, _, h⟩ := h
    exact hn.lt j i h
theorem Acc.snoc (hn : Nice nx) {s : Nat} (hs : s < 19) {acc : List Nat} (h : Acc nx s acc) {i : Nat} (hi : orb nx s acc.length = some i) (hm : i ∉ acc) : Acc nx s (acc ++ [i]) := by
  refine ⟨fun j hj => ?_, ?_, fun a ha => ?_⟩
  · rcases Nat.lt_or_ge j acc.length with h1 | h1
    · rw [List.getElem?_append_left h1]; exact h.at_ j h1
    · have : j = acc.length := by simp at hj; omega
      subst this
      rw [List.getElem?_append_right (by omega)]; simp [hi]
  · rw [List.nodup_append]
    exact ⟨h.nodup, by simp, fun a ha b hb e => by simp at hb; subst hb; subst e; exact hm ha⟩
  · rw [List.mem_append] at ha
    rcases ha with ha | ha
    · exact h.lt a ha
    · simp at ha; subst ha; exact orb_lt hn hs _ _ hi
theorem Acc.len {s : Nat} {acc : List Nat} (h : Acc nx s acc) : acc.length ≤ 19 := nodup_le acc 19 h.nodup h.lt

/-- what the whole way is -/
structure Rho (nx : Nat → Option Nat) (s : Nat) (w : List Nat) : Prop extends Acc nx s w where
  pos : 0 < w.length
  last : orb nx s w.length = none ∨ ∃ mu, mu < w.length ∧ orb nx s w.length = orb nx s mu
theorem wayF_rho (hn : Nice nx) {s : Nat} (hs : s < 19) : ∀ (n : Nat) (acc : List Nat), Acc nx s acc → acc.length + n = 20 → Rho nx s (wayF nx n acc (orb nx s acc.length)) := by
  intro n
  induction n with
  | zero => intro acc h hl; have := h.len; omega
  | succ n ih =>
    intro acc h hl
    cases hc : orb nx s acc.length with
    | none =>
      show Rho nx s acc
      have : acc.length ≠ 0 := by intro h0; rw [h0] at hc; simp [orb] at hc
      exact ⟨h, by omega, .inl hc⟩
    | some i =>
      show Rho nx s (if i ∈ acc then acc else wayF nx n (acc ++ [i]) (nx i))
      by_cases hm : i ∈ acc
      · rw [if_pos hm]
        obtain ⟨mu, hmu⟩ := List.getElem?_of_mem hm
        have hlt := (List.getElem?_eq_some_iff.1 hmu).1
        exact ⟨h, by omega, .inr ⟨mu, hlt, by rw [hc, ← h.at_ mu hlt, hmu]⟩⟩
      · rw [if_neg hm]
        have := ih (acc ++ [i]) (h.snoc hn hs hc hm) (by simp; omega)
        rw [show (acc ++ [i]).length = acc.length + 1 by simp] at this
        simpa only [orb, hc, Option.bind_some] using this
theorem way_rho (hn : Nice nx) {s : Nat} (hs : s < 19) : Rho nx s (way nx s) := wayF_rho hn hs 20 [] (Acc.nil s) rfl
/-- the step of a walk of the way -/
theorem wayF_step {n : Nat} {acc : List Nat} {i : Nat} (hm : i ∉ acc) : wayF nx (n + 1) acc (some i) = wayF nx n (acc ++ [i]) (nx i) := by
  show (if i ∈ acc then acc else _) = _; rw [if_neg hm]
theorem wayF_hit {n : Nat} {acc : List Nat} {i : Nat} (hm : i ∈ acc) : wayF nx n acc (some i) = acc := by
  cases n with
  | zero => rfl
  | succ n => show (if i ∈ acc then acc else _) = _; rw [if_pos hm]
theorem wayF_none {n : Nat} {acc : List Nat} : wayF nx n acc none = acc := by cases n <;> rfl

theorem orb_add (s : Nat) (a b : Nat) : orb nx s (a + b) = (orb nx s a).bind fun i => orb nx i b := by
  induction b with
  | zero => simp only [Nat.add_zero, orb]; cases orb nx s a <;> rfl
  | succ b ih =>
    rw [← Nat.add_assoc]; simp only [orb]; rw [ih]
    cases orb nx s a <;> rfl
theorem orb_shift {s a b : Nat} (h : orb nx s a = orb nx s b) (k : Nat) : orb nx s (a + k) = orb nx s (b + k) := by
  rw [orb_add, orb_add, h]
theorem orb_none {s a : Nat} (h : orb nx s a = none) (k : Nat) : orb nx s (a + k) = none := by rw [orb_add, h]; rfl
theorem orb_none_ge {s a b : Nat} (h : orb nx s a = none) (hb : a ≤ b) : orb nx s b = none := by
  have := orb_none h (b - a); rwa [show a + (b - a) = b by omega] at this
section
variable {s : Nat} {w : List Nat}
theorem Rho.some_ (h : Rho nx s w) {j : Nat} (hj : j < w.length) : orb nx s j = some w[j] := by rw [← h.at_ j hj, List.getElem?_eq_getElem hj]
theorem Rho.inj (h : Rho nx s w) {i j : Nat} (hi : i < w.length) (hj : j < w.length) (e : orb nx s i = orb nx s j) : i = j := by
  rw [h.some_ hi, h.some_ hj] at e
  exact (List.getElem_inj h.nodup).1 (Option.some.inj e)
theorem Rho.unique (h : Rho nx s w) {v : List Nat} (k : Rho nx s v) : w = v := by
  have key : ∀ {w v : List Nat}, Rho nx s w → Rho nx s v → ¬ w.length < v.length := by
    intro w v h k hlt
    rcases h.last with h1 | ⟨mu, hmu, h1⟩
    · rw [k.some_ hlt] at h1; cases h1
    · have := k.inj hlt (by omega) h1; omega
  have hl : w.length = v.length := by have := key h k; have := key k h; omega
  apply List.ext_getElem?
  intro j
  rcases Nat.lt_or_ge j w.length with h1 | h1
  · rw [h.at_ j h1, k.at_ j (by omega)]
  · rw [List.getElem?_eq_none h1, List.getElem?_eq_none (by omega)]
/-- every element of the chain is one of the way's, behind the ring's start if it was there -/
theorem Rho.fold (h : Rho nx s w) {mu : Nat} (hmu : mu < w.length) (e : orb nx s w.length = orb nx s mu) : ∀ k, ∃ p, p < w.length ∧ orb nx s k = orb nx s p ∧ (k < w.length → p = k) ∧ (mu ≤ k → mu ≤ p) := by
  intro k
  induction k with
  | zero => exact ⟨0, h.pos, rfl, fun _ => rfl, fun h => h⟩
  | succ k ih =>
    obtain ⟨p, h1, h2, h3, h4⟩ := ih
    by_cases hl : p + 1 < w.length
    · refine ⟨p + 1, hl, by simp only [orb]; rw [h2], fun hk => by rw [h3 (by omega)], fun hk => ?_⟩
      by_cases hkm : mu ≤ k
      · have := h4 hkm; omega
      · have := h3 (by omega); omega
    · refine ⟨mu, hmu, ?_, fun hk => ?_, fun _ => Nat.le_refl _⟩
      · have : p + 1 = w.length := by omega
        rw [← e, ← this]; simp only [orb]; rw [h2]
      · have := h3 (by omega); omega
theorem Rho.later (h : Rho nx s w) {mu : Nat} (hmu : mu < w.length) (e : orb nx s w.length = orb nx s mu) {j k : Nat} (hj : j < mu) (hk : mu ≤ k) : orb nx s j ≠ orb nx s k := by
  obtain ⟨p, h1, h2, _, h4⟩ := h.fold hmu e k
  intro e2
  rw [h2] at e2
  have := h.inj (by omega) h1 e2
  have := h4 hk; omega

/-- a spot on a ring -/
def OnR (nx : Nat → Option Nat) (s : Nat) : Prop := ∃ k, 0 < k ∧ orb nx s k = some s
theorem Rho.onR (h : Rho nx s w) : OnR nx s ↔ orb nx s w.length = some s := by
  constructor
  · rintro ⟨k, hk, e⟩
    rcases h.last with h1 | ⟨mu, hmu, h1⟩
    · rcases Nat.lt_or_ge k w.length with h2 | h2
      · have := h.inj h2 h.pos (by rw [e]; rfl); omega
      · rw [orb_none_ge h1 h2] at e; cases e
    · rcases Nat.eq_zero_or_pos mu with h0 | h0
      · subst h0; rw [h1]; rfl
      · exfalso
        rcases Nat.lt_or_ge k w.length with h2 | h2
        · have := h.inj h2 h.pos (by rw [e]; rfl); omega
        · exact h.later hmu h1 h0 (show mu ≤ k by omega) (by rw [e]; rfl)
  · intro e; exact ⟨_, h.pos, e⟩
/-- the way runs into its ring at mu -/
theorem Rho.ring_at (h : Rho nx s w) {mu : Nat} (hmu : mu < w.length) (e : orb nx s w.length = orb nx s mu) {j i : Nat} (hi : orb nx s j = some i) : OnR nx i ↔ mu ≤ j := by
  constructor
  · rintro ⟨k, hk, e2⟩
    rcases Nat.lt_or_ge j mu with h1 | h1
    · exfalso
      -- i comes again and again, so also behind mu
      have h2 : ∀ t, orb nx s (j + k * t) = some i := by
        intro t
        induction t with
        | zero => simpa using hi
        | succ t ih => rw [Nat.mul_succ, ← Nat.add_assoc, orb_add, ih]; exact e2
      have h3 := h2 mu
      have h4 : mu ≤ j + k * mu := by have := Nat.le_mul_of_pos_left mu hk; omega
      exact h.later hmu e h1 h4 (by rw [hi, h3])
    · exact h1
  · intro hj
    obtain ⟨p, h1, h2, _, h4⟩ := h.fold hmu e j
    have hp := h4 hj
    refine ⟨w.length - mu, by omega, ?_⟩
    have h5 := orb_shift (nx := nx) (s := s) e (p - mu)
    rw [show mu + (p - mu) = p by omega, ← h2, hi, show w.length + (p - mu) = p + (w.length - mu) by omega, orb_add, ← h2, hi] at h5
    exact h5
theorem Rho.no_ring (_h : Rho nx s w) (e : orb nx s w.length = none) {j i : Nat} (hi : orb nx s j = some i) : ¬ OnR nx i := by
  rintro ⟨k, hk, e2⟩
  have h2 : ∀ t, orb nx s (j + k * t) = some i := by
    intro t
    induction t with
    | zero => simpa using hi
    | succ t ih => rw [Nat.mul_succ, ← Nat.add_assoc, orb_add, ih]; exact e2
  have h3 := h2 w.length
  have h4 : w.length ≤ j + k * w.length := by have := Nat.le_mul_of_pos_left w.length hk; omega
  rw [orb_none_ge e h4] at h3; cases h3
end
end Go.PW
namespace Go.PW
variable {nx : Nat → Option Nat} {s : Nat} {w : List Nat}
/-- where the way to a ring or an end stops -/
structure Stops (nx : Nat → Option Nat) (s D : Nat) : Prop where
  lt : D ≤ 19
  before : ∀ j, j < D → ∃ i t, orb nx s j = some i ∧ nx i = some t ∧ ¬ OnR nx i
  at_ : ∃ i, orb nx s D = some i ∧ (nx i = none ∨ OnR nx i)
theorem Rho.step (h : Rho nx s w) {j : Nat} (hj : j + 1 < w.length) : ∃ i t, orb nx s j = some i ∧ nx i = some t ∧ orb nx s (j + 1) = some t := by
  have h1 := h.some_ (j := j) (by omega)
  have h2 := h.some_ hj
  refine ⟨_, _, h1, ?_, h2⟩
  have : orb nx s (j + 1) = (orb nx s j).bind nx := rfl
  rw [h1, h2] at this
  exact this.symm
theorem Rho.stops (h : Rho nx s w) : ∃ D, Stops nx s D ∧ ((orb nx s w.length = none ∧ D + 1 = w.length) ∨ (D < w.length ∧ orb nx s w.length = orb nx s D)) := by
  have hl := h.len
  have hp := h.pos
  rcases h.last with h1 | ⟨mu, hmu, h1⟩
  · refine ⟨w.length - 1, ⟨by omega, fun j hj => ?_, ?_⟩, .inl ⟨h1, by omega⟩⟩
    · obtain ⟨i, t, e1, e2, e3⟩ := h.step (j := j) (by omega)
      exact ⟨i, t, e1, e2, h.no_ring h1 e1⟩
    · refine ⟨_, h.some_ (j := w.length - 1) (by omega), .inl ?_⟩
      have h2 := h.some_ (j := w.length - 1) (by omega)
      have : orb nx s (w.length - 1 + 1) = (orb nx s (w.length - 1)).bind nx := rfl
      rw [show w.length - 1 + 1 = w.length by omega, h1, h2] at this
      exact this.symm
  · refine ⟨mu, ⟨by omega, fun j hj => ?_, ?_⟩, .inr ⟨hmu, h1⟩⟩
    · obtain ⟨i, t, e1, e2, e3⟩ := h.step (j := j) (by omega)
      exact ⟨i, t, e1, e2, fun hr => by have := (h.ring_at hmu h1 e1).1 hr; omega⟩
    · exact ⟨_, h.some_ hmu, .inr ((h.ring_at hmu h1 (h.some_ hmu)).2 (Nat.le_refl _))⟩
theorem Stops.unique {D E : Nat} (h : Stops nx s D) (k : Stops nx s E) : D = E := by
  have key : ∀ {D E : Nat}, Stops nx s D → Stops nx s E → ¬ D < E := by
    intro D E h k hlt
    obtain ⟨i, e1, e2⟩ := h.at_
    obtain ⟨i', t, e3, e4, e5⟩ := k.before D hlt
    rw [e1] at e3; cases e3
    rcases e2 with e2 | e2
    · rw [e4] at e2; cases e2
    · exact e5 e2
  have := key h k; have := key k h; omega

/-- the pointers meet after at most 19 rounds -/
theorem Rho.meets (h : Rho nx s w) : ∃ k, 1 ≤ k ∧ k ≤ 19 ∧ orb nx s k = orb nx s (2 * k) := by
  have hl := h.len
  rcases h.last with h1 | ⟨mu, hmu, h1⟩
  · exact ⟨19, by omega, by omega, by rw [orb_none_ge h1 (by omega), orb_none_ge h1 (by omega)]⟩
  · obtain ⟨lam, hlam⟩ : ∃ lam, lam = w.length - mu := ⟨_, rfl⟩
    have per : ∀ t x, mu ≤ x → orb nx s (x + lam * t) = orb nx s x := by
      intro t x hx
      induction t with
      | zero => rfl
      | succ t ih =>
        rw [Nat.mul_succ, ← Nat.add_assoc, ← ih]
        have := orb_shift (nx := nx) (s := s) h1 (x + lam * t - mu)
        rw [show w.length + (x + lam * t - mu) = x + lam * t + lam by omega, show mu + (x + lam * t - mu) = x + lam * t by omega] at this
        exact this
    have hd := Nat.div_add_mod mu lam
    have hm := Nat.mod_lt mu (show 0 < lam by omega)
    refine ⟨lam * (mu / lam + 1), ?_, ?_, ?_⟩
    · rw [Nat.mul_add]; omega
    · rw [Nat.mul_add]; omega
    · rw [Nat.two_mul, per _ _ (by rw [Nat.mul_add]; omega)]
/-- what the meeting of the two pointers is -/
def Meet (nx : Nat → Option Nat) (s : Nat) (m : Option Nat) : Prop := (m = none ∧ ∃ k, orb nx s k = none) ∨ ∃ k, 0 < k ∧ m = orb nx s k ∧ orb nx s k = orb nx s (2 * k)
/-- what the entrance of the ring is -/
def Ent (nx : Nat → Option Nat) (s : Nat) (e : Option Nat) : Prop := ∃ D, Stops nx s D ∧ ((e = none ∧ ∃ k, orb nx s k = none) ∨ (e = orb nx s D ∧ ∀ k, orb nx s k ≠ none))
theorem Rho.ends (h : Rho nx s w) {k : Nat} (hk : orb nx s k = none) : orb nx s w.length = none := by
  rcases h.last with h1 | ⟨mu, hmu, h1⟩
  · exact h1
  · obtain ⟨p, h2, h3, _⟩ := h.fold hmu h1 k
    rw [h3, h.some_ h2] at hk; cases hk
/-- the second walk of the pointers -/
theorem Rho.second (h : Rho nx s w) {m : Option Nat} (hm : Meet nx s m) : (m = none ∧ ∃ k, orb nx s k = none) ∨ ∃ k D, Stops nx s D ∧ m = orb nx s k ∧ (∀ j, j < D → orb nx s j ≠ orb nx s (k + j)) ∧ orb nx s D = orb nx s (k + D) ∧ ∀ i, orb nx s i ≠ none := by
  rcases hm with hm | ⟨k, hk, rfl, e⟩
  · exact .inl hm
  · by_cases h0 : orb nx s k = none
    · exact .inl ⟨h0, _, h0⟩
    · right
      obtain ⟨D, hD, hc⟩ := h.stops
      rcases hc with ⟨h1, h2⟩ | ⟨h1, h2⟩
      · exfalso
        have hk1 : k < w.length := Nat.lt_of_not_ge fun hge => h0 (orb_none_ge h1 hge)
        have hk2 : 2 * k < w.length := Nat.lt_of_not_ge fun hge => h0 (by rw [e]; exact orb_none_ge h1 hge)
        have := h.inj hk1 hk2 e; omega
      · have hkD : D ≤ k := by
          rcases Nat.lt_or_ge k D with hlt | hge
          · exfalso
            by_cases h3 : 2 * k < w.length
            · have := h.inj (by omega) h3 e; omega
            · exact h.later h1 h2 hlt (show D ≤ 2 * k by omega) e
          · exact hge
        refine ⟨k, D, hD, rfl, fun j hj => h.later h1 h2 hj (by omega), ?_, fun i hi => ?_⟩
        · -- some m with orb (k + m) = orb D
          obtain ⟨lam, hlam⟩ : ∃ lam, lam = w.length - D := ⟨_, rfl⟩
          have per : ∀ t x, D ≤ x → orb nx s (x + lam * t) = orb nx s x := by
            intro t x hx
            induction t with
            | zero => rfl
            | succ t ih =>
              rw [Nat.mul_succ, ← Nat.add_assoc, ← ih]
              have := orb_shift (nx := nx) (s := s) h2 (x + lam * t - D)
              rw [show w.length + (x + lam * t - D) = x + lam * t + lam by omega, show D + (x + lam * t - D) = x + lam * t by omega] at this
              exact this
          -- D + lam * k ≥ k, reached from k by m steps
          have hlk : k ≤ lam * k := Nat.le_mul_of_pos_left k (by omega)
          have e1 := per k D (Nat.le_refl _)
          have e2 := orb_shift (nx := nx) (s := s) e (D + lam * k - k)
          rw [show k + (D + lam * k - k) = D + lam * k by omega, show 2 * k + (D + lam * k - k) = k + D + lam * k by omega, e1, per k (k + D) (by omega)] at e2
          exact e2
        · have := h.ends hi
          rw [h2, h.some_ h1] at this; cases this
theorem Ent.onR (h : Rho nx s w) {e : Option Nat} (he : Ent nx s e) : e = some s ↔ OnR nx s := by
  obtain ⟨D, hD, hc⟩ := he
  rcases hc with ⟨rfl, k, hk⟩ | ⟨rfl, hall⟩
  · constructor
    · intro h; cases h
    · intro hr; exact absurd hr (h.no_ring (h.ends hk) (j := 0) rfl)
  · obtain ⟨E, hE, hc⟩ := h.stops
    rcases hc with ⟨h1, _⟩ | ⟨h1, h2⟩
    · exact absurd h1 (hall _)
    · have := hD.unique hE
      subst this
      rw [h.ring_at h1 h2 (j := 0) (i := s) rfl]
      constructor
      · intro e
        have := h.inj h1 h.pos (by rw [e]; rfl)
        omega
      · intro h0
        have : D = 0 := by omega
        subst this; rfl
/-- the entrance does not come before -/
theorem Ent.before (h : Rho nx s w) {e : Option Nat} (he : Ent nx s e) {D : Nat} (hD : Stops nx s D) : (∀ j, j < D → orb nx s j ≠ e) ∧ (orb nx s D = e ∨ ∃ i, orb nx s D = some i ∧ nx i = none) := by
  obtain ⟨E, hE, hc⟩ := he
  have := hD.unique hE
  subst this
  rcases hc with ⟨rfl, k, hk⟩ | ⟨rfl, hall⟩
  · refine ⟨fun j hj => ?_, ?_⟩
    · obtain ⟨i, t, e1, _⟩ := hD.before j hj
      rw [e1]; intro h; cases h
    · obtain ⟨i, e1, e2⟩ := hD.at_
      exact .inr ⟨i, e1, e2.resolve_right (h.no_ring (h.ends hk) e1)⟩
  · refine ⟨fun j hj e => ?_, .inl rfl⟩
    obtain ⟨i, t, e1, _, e3⟩ := hD.before j hj
    obtain ⟨i', e4, e5⟩ := hD.at_
    rw [e1, e4] at e; cases e
    rcases e5 with e5 | e5
    · exact hall (D + 1) (by simp only [orb]; rw [e4]; exact e5)
    · exact e3 e5
end Go.PW
namespace Go.PW
open Go.PM Go.RowKit Go.Lib

def spotsL : List UInt8 := [97, 98, 99, 100, 101, 102, 65, 66, 67, 48, 49, 50, 51, 52, 53, 54, 55, 56, 57]
def ch (i : Nat) : UInt8 := spotsL.getD i 0
def sn (i : Nat) : ByteArray := ⟨#[ch i]⟩
def sidx (s : ByteArray) : Nat := (indexByte spotsL (s.data.toList.headD 0)).toNat
def txt (l : List Nat) : ByteArray := ⟨(l.map ch).toArray⟩
theorem sn_nm (i : Nat) (h : i < 9) : sn i = nm i := by
  match i, h with
  | 0, _ | 1, _ | 2, _ | 3, _ | 4, _ | 5, _ | 6, _ | 7, _ | 8, _ => rfl
theorem ch_all : ∀ i, i < 19 → (indexByte spotsL (ch i)) = (i : Nat) ∧ isS (sn i) = true ∧ isP (sn i) = decide (i < 9) ∧ isD (sn i) = decide (9 ≤ i) := by
  intro i h
  rcases (show i = 0 ∨ i = 1 ∨ i = 2 ∨ i = 3 ∨ i = 4 ∨ i = 5 ∨ i = 6 ∨ i = 7 ∨ i = 8 ∨ i = 9 ∨ i = 10 ∨ i = 11 ∨ i = 12 ∨ i = 13 ∨ i = 14 ∨ i = 15 ∨ i = 16 ∨ i = 17 ∨ i = 18 by omega) with rfl | rfl | rfl | rfl | rfl | rfl | rfl | rfl | rfl | rfl | rfl | rfl | rfl | rfl | rfl | rfl | rfl | rfl | rfl <;> decide +kernel
theorem ch_inj {i j : Nat} (hi : i < 19) (hj : j < 19) (e : ch i = ch j) : i = j := by
  have h1 := (ch_all i hi).1
  have h2 := (ch_all j hj).1
  rw [e, h2] at h1; omega
theorem sn_inj {i j : Nat} (hi : i < 19) (hj : j < 19) (e : sn i = sn j) : i = j := by
  refine ch_inj hi hj ?_
  have := congrArg (fun s => s.data.toList.headD 0) e
  simpa [sn] using this
theorem sidx_sn {i : Nat} (hi : i < 19) : sidx (sn i) = i := by
  have := (ch_all i hi).1
  unfold sidx sn
  show (indexByte spotsL (ch i)).toNat = i
  rw [this]; rfl
theorem sidx_one (c : UInt8) (h : isS ⟨#[c]⟩ = true) : sidx ⟨#[c]⟩ < 19 ∧ sn (sidx ⟨#[c]⟩) = ⟨#[c]⟩ := by
  have hm : c ∈ spotsL := by
    unfold isS at h
    rw [Bool.or_eq_true] at h
    rcases h with h | h
    · have : c ∈ placesL := by simpa [isP] using h
      simp only [placesL, List.mem_cons, List.not_mem_nil, or_false] at this
      simp only [spotsL, List.mem_cons, List.not_mem_nil, or_false]
      rcases this with h | h | h | h | h | h | h | h | h <;> simp [h]
    · have : 48 ≤ c.toNat ∧ c.toNat ≤ 57 := by simpa [isD] using h
      obtain ⟨n, hn⟩ : ∃ n, c.toNat = n := ⟨_, rfl⟩
      have hc : c = UInt8.ofNat n := by rw [← hn]; simp
      subst hc
      rw [hn] at this
      have : n = 48 ∨ n = 49 ∨ n = 50 ∨ n = 51 ∨ n = 52 ∨ n = 53 ∨ n = 54 ∨ n = 55 ∨ n = 56 ∨ n = 57 := by omega
      rcases this with rfl | rfl | rfl | rfl | rfl | rfl | rfl | rfl | rfl | rfl <;> decide
  simp only [spotsL, List.mem_cons, List.not_mem_nil, or_false] at hm
  rcases hm with rfl | rfl | rfl | rfl | rfl | rfl | rfl | rfl | rfl | rfl | rfl | rfl | rfl | rfl | rfl | rfl | rfl | rfl | rfl <;> decide +kernel
theorem sidx_spec {s : ByteArray} (h : isS s = true) : sidx s < 19 ∧ sn (sidx s) = s := by
  obtain ⟨c, rfl⟩ := one_of_size (isS_size h)
  exact sidx_one c h
theorem sidx_pidx {s : ByteArray} (h : isP s = true) : sidx s = pidx s := by
  have h1 := pidx_spec h
  have h2 : isS s = true := by unfold isS; rw [h]; rfl
  have h3 := sidx_spec h2
  refine sn_inj h3.1 (by omega) ?_
  rw [h3.2, sn_nm _ h1.1, h1.2]
theorem isP_sidx {s : ByteArray} (h : isS s = true) : isP s = decide (sidx s < 9) := by
  have h1 := sidx_spec h
  have h2 := (ch_all _ h1.1).2.2.1
  rwa [h1.2] at h2
def strLen : Value → Nat
  | .string t => t.size
  | _ => 0
theorem txt_nil : txt [] = ⟨#[]⟩ := rfl
theorem txt_one (i : Nat) : txt [i] = sn i := rfl
theorem txt_append (l m : List Nat) : txt (l ++ m) = txt l ++ txt m := by
  apply ByteArray.ext
  rw [ByteArray.data_append]
  simp [txt]
theorem txt_snoc (l : List Nat) (i : Nat) : txt (l ++ [i]) = txt l ++ sn i := txt_append l [i]
theorem txt_size (l : List Nat) : (txt l).size = l.length := by simp [txt, ByteArray.size]
theorem txt_list (l : List Nat) : (txt l).data.toList = l.map ch := by simp [txt]
theorem txt_mem {l : List Nat} (hl : ∀ a ∈ l, a < 19) {i : Nat} (hi : i < 19) : ch i ∈ (txt l).data.toList ↔ i ∈ l := by
  rw [txt_list, List.mem_map]
  constructor
  · rintro ⟨j, hj, e⟩
    have := ch_inj (hl j hj) hi e
    exact this ▸ hj
  · intro h; exact ⟨i, h, rfl⟩
theorem txt_inj : ∀ {l m : List Nat}, (∀ a ∈ l, a < 19) → (∀ a ∈ m, a < 19) → txt l = txt m → l = m := by
  intro l m hl hm e
  have h : l.map ch = m.map ch := by rw [← txt_list, ← txt_list, e]
  clear e
  induction l generalizing m with
  | nil => cases m with
    | nil => rfl
    | cons b m => simp at h
  | cons a l ih => cases m with
    | nil => simp at h
    | cons b m =>
      rw [List.map_cons, List.map_cons, List.cons.injEq] at h
      have := ch_inj (hl a (by simp)) (hm b (by simp)) h.1
      rw [this, ih (fun x hx => hl x (by simp [hx])) (fun x hx => hm x (by simp [hx])) h.2]

/-- a table whose sources are places or digits -/
def SV (f : Nat → ByteArray) : Prop := ∀ p, p < 9 → isS (srcT f p) = true
theorem SV_tab {xs : List Mv} (h : MV xs) : SV (tabOf xs) := by
  intro p hp
  rw [srcM_nm h hp]
  unfold srcM
  cases hf : xs.find? (fun m => decide (m.1 = nm p)) with
  | none => show isS (nm p) = true; unfold isS; rw [isP_nm hp]; rfl
  | some m =>
    have := h.1 m (List.mem_of_find?_eq_some hf)
    unfold mok at this; rw [Bool.and_eq_true] at this
    exact this.2
/-- the spot whence the value of a place comes -/
def sx (f : Nat → ByteArray) (p : Nat) : Nat := sidx (srcT f p)
def nxT (f : Nat → ByteArray) (i : Nat) : Option Nat := if i < 9 then (if sx f i = i then none else some (sx f i)) else none
theorem sx_lt {f : Nat → ByteArray} (h : SV f) {p : Nat} (hp : p < 9) : sx f p < 19 ∧ sn (sx f p) = srcT f p := sidx_spec (h p hp)
theorem nice {f : Nat → ByteArray} (h : SV f) : Nice (nxT f) := by
  refine ⟨fun i j e => ?_, fun i e => ?_, fun i j e => ?_⟩
  all_goals
    unfold nxT at e
    by_cases h9 : i < 9
    · rw [if_pos h9] at e
      by_cases h1 : sx f i = i
      · rw [if_pos h1] at e; cases e
      · rw [if_neg h1, Option.some.injEq] at e
        first | exact h9 | exact absurd e h1 | exact e ▸ (sx_lt h h9).1
    · rw [if_neg h9] at e; cases e
theorem nxT_some {f : Nat → ByteArray} {i : Nat} (hi : i < 9) (h : sx f i ≠ i) : nxT f i = some (sx f i) := by
  unfold nxT; rw [if_pos hi, if_neg h]
theorem nxT_stay {f : Nat → ByteArray} {i : Nat} (hi : i < 9) (h : sx f i = i) : nxT f i = none := by
  unfold nxT; rw [if_pos hi, if_pos h]
theorem nxT_digit {f : Nat → ByteArray} {i : Nat} (hi : ¬ i < 9) : nxT f i = none := by
  unfold nxT; rw [if_neg hi]
theorem src_self {f : Nat → ByteArray} (h : SV f) {i : Nat} (hi : i < 9) : srcT f i = nm i ↔ sx f i = i := by
  have h1 := sx_lt h hi
  rw [← h1.2, ← sn_nm i hi]
  exact ⟨fun e => sn_inj h1.1 (by omega) e, fun e => by rw [e]⟩
end Go.PW
namespace Go.PW
open Go.PM
variable {nx : Nat → Option Nat}
theorem least_ex {P : Nat → Prop} : ∀ n, P n → ∃ m, P m ∧ ∀ k, P k → m ≤ k := by
  intro n
  induction n using Nat.strongRecOn with
  | ind n ih =>
    intro h
    by_cases h2 : ∃ m, m < n ∧ P m
    · obtain ⟨m, h3, h4⟩ := h2; exact ih m h3 h4
    · exact ⟨n, h, fun k hk => Nat.le_of_not_lt fun hlt => h2 ⟨k, hlt, hk⟩⟩
open Classical in
/-- the least number of which P holds -/
noncomputable def least (P : Nat → Prop) : Nat := if h : ∃ m, P m ∧ ∀ k, P k → m ≤ k then Classical.choose h else 0
theorem least_spec {P : Nat → Prop} (h : ∃ n, P n) : P (least P) ∧ ∀ k, P k → least P ≤ k := by
  obtain ⟨n, hn⟩ := h
  have hx := least_ex n hn
  unfold least
  rw [dif_pos hx]
  exact Classical.choose_spec hx
/-- what a walk along the way holds: the spots till i, the last of them -/
structure WayI (nx : Nat → Option Nat) (s : Nat) (acc : List Nat) (i n : Nat) : Prop extends Acc nx s acc where
  pos : 0 < acc.length
  cur : orb nx s (acc.length - 1) = some i
  way_ : way nx s = wayF nx n acc (nx i)
  len : acc.length + n = 20
theorem WayI.start (nx : Nat → Option Nat) {s : Nat} (hs : s < 19) : WayI nx s [s] s 19 := by
  refine ⟨⟨fun j h => ?_, by simp, fun a ha => ?_⟩, by simp, rfl, ?_, rfl⟩
  · have : j = 0 := by simp at h; omega
    subst this; rfl
  · simp at ha; omega
  · show wayF nx 20 [] (some s) = _
    rw [wayF_step (by simp)]; rfl
section
variable {s : Nat} {acc : List Nat} {i n : Nat}
theorem WayI.next_orb (h : WayI nx s acc i n) : orb nx s acc.length = nx i := by
  have : orb nx s (acc.length - 1 + 1) = (orb nx s (acc.length - 1)).bind nx := rfl
  rw [show acc.length - 1 + 1 = acc.length by have := h.pos; omega, h.cur] at this
  exact this
theorem WayI.mem (h : WayI nx s acc i n) : i ∈ acc := by
  have h1 := h.at_ (acc.length - 1) (by have := h.pos; omega)
  rw [h.cur] at h1
  exact List.mem_of_getElem? h1
theorem WayI.ilt (h : WayI nx s acc i n) : i < 19 := h.lt i h.mem
theorem WayI.stop (h : WayI nx s acc i n) (e : nx i = none) : way nx s = acc := by rw [h.way_, e, wayF_none]
theorem WayI.hit (h : WayI nx s acc i n) {j : Nat} (e : nx i = some j) (hm : j ∈ acc) : way nx s = acc := by rw [h.way_, e, wayF_hit hm]
theorem WayI.next (hn : Nice nx) (hs : s < 19) (h : WayI nx s acc i n) {j : Nat} (e : nx i = some j) (hm : j ∉ acc) : ∃ n', n = n' + 1 ∧ WayI nx s (acc ++ [j]) j n' := by
  have hl := h.toAcc.len
  have ho := h.next_orb
  rw [e] at ho
  obtain ⟨n', rfl⟩ : ∃ n', n = n' + 1 := ⟨n - 1, by have := h.len; omega⟩
  have h2 := h.toAcc.snoc hn hs ho hm
  have h3 := h2.len
  simp at h3
  refine ⟨n', rfl, h2, by simp, by simpa using ho, ?_, by have := h.len; simp; omega⟩
  rw [h.way_, e, wayF_step hm]
end

/-- the way as it is told by names: whence a place's value comes, itself where it stays -/
theorem way_src {f : Nat → ByteArray} (_hf : SV f) {s : Nat} {acc : List Nat} {i n : Nat} (h : WayI (nxT f) s acc i n) (hi : i < 9) (hm : sx f i ∈ acc) : way (nxT f) s = acc := by
  by_cases e : sx f i = i
  · exact h.stop (nxT_stay hi e)
  · exact h.hit (nxT_some hi e) hm
theorem way_go {f : Nat → ByteArray} (hf : SV f) {s : Nat} (hs : s < 19) {acc : List Nat} {i n : Nat} (h : WayI (nxT f) s acc i n) (hi : i < 9) (hm : sx f i ∉ acc) : ∃ n', n = n' + 1 ∧ WayI (nxT f) s (acc ++ [sx f i]) (sx f i) n' := by
  have e : sx f i ≠ i := fun e => hm (by rw [e]; exact h.mem)
  exact h.next (nice hf) hs (nxT_some hi e) hm

def onRb (nx : Nat → Option Nat) (s : Nat) : Bool := decide (orb nx s (way nx s).length = some s)
theorem onRb_iff (hn : Nice nx) {s : Nat} (hs : s < 19) : onRb nx s = true ↔ OnR nx s := by
  rw [(way_rho hn hs).onR]; simp [onRb]
/-- the ring at a spot, nothing where there is none -/
def ringL (nx : Nat → Option Nat) (s : Nat) : List Nat := if onRb nx s then way nx s else []
/-- the rings of the first k places -/
def ringsF (nx : Nat → Option Nat) : Nat → List (List Nat)
  | 0 => []
  | k + 1 => if onRb nx k = true ∧ k ∉ (ringsF nx k).flatten then ringsF nx k ++ [way nx k] else ringsF nx k
theorem ringsF_yes {k : Nat} (h1 : onRb nx k = true) (h2 : k ∉ (ringsF nx k).flatten) : ringsF nx (k + 1) = ringsF nx k ++ [way nx k] := by rw [ringsF, if_pos ⟨h1, h2⟩]
theorem ringsF_no {k : Nat} (h : ¬ (onRb nx k = true ∧ k ∉ (ringsF nx k).flatten)) : ringsF nx (k + 1) = ringsF nx k := by rw [ringsF, if_neg h]
theorem ringsF_lt (hn : Nice nx) : ∀ k, k ≤ 9 → (∀ a ∈ (ringsF nx k).flatten, a < 19) ∧ (ringsF nx k).length ≤ k ∧ (ringsF nx k).flatten.length ≤ 19 * k := by
  intro k
  induction k with
  | zero => intro _; exact ⟨by simp [ringsF], by simp [ringsF], by simp [ringsF]⟩
  | succ k ih =>
    intro hk
    obtain ⟨h1, h2, h3⟩ := ih (by omega)
    by_cases h : onRb nx k = true ∧ k ∉ (ringsF nx k).flatten
    · rw [ringsF_yes h.1 h.2]
      have hr := way_rho hn (show k < 19 by omega)
      have hl := hr.len
      refine ⟨fun a ha => ?_, by simp; omega, by simp; simp at h3; omega⟩
      simp only [List.flatten_append, List.mem_append] at ha
      rcases ha with ha | ha
      · exact h1 a ha
      · exact hr.lt a (by simpa using ha)
    · rw [ringsF_no h]; exact ⟨h1, by omega, by omega⟩
end Go.PW
namespace Go.Proofs.YthgcoocgeekdnaaGreatDoor
open Go.RowKit Go.PM Go.PW Go.Lib

set_option maxRecDepth 100000 in
set_option maxHeartbeats 1000000 in
theorem l3Way_c (xs : List Mv) (h1 : MV xs) (v : Value) (s : Nat) (hs : s < 19) (w : World) (hx : RdM w v xs) :
    Calls Tryz.prog 113 #[v, .string (sn s)] w fun e w' => e = .returned (.string (txt (way (nxT (tabOf xs)) s))) ∧ Below w.heap.size w w' := by
  have hf := SV_tab h1
  have HSrc := Lib.hid (fun i (hi : i < 9) => show srcM xs (sn i) = sn (sx (tabOf xs) i) by rw [sn_nm i hi, ← srcM_nm h1 hi, (sx_lt hf hi).2])
  have HLT := Lib.hid (fun i (hi : i < 9) => (sx_lt hf hi).1)
  have HST := Lib.hid (fun acc i n (h : WayI (nxT (tabOf xs)) s acc i n) (hi : ¬ i < 9) => h.stop (nxT_digit hi))
  have HHI := Lib.hid (fun acc i n (h : WayI (nxT (tabOf xs)) s acc i n) hi hm => way_src hf h hi hm)
  have HGO := Lib.hid (fun acc i n (h : WayI (nxT (tabOf xs)) s acc i n) hi hm => way_go hf hs h hi hm)
  have HS := Lib.hid (fun W (hW : RdM W v xs) (a : ByteArray) => l1Source_c xs v a W hW)
  have HX := Lib.hid (fun W (hW : Below w.heap.size w W) => hx.below hW)
  have hst := Lib.hid (WayI.start (nxT (tabOf xs)) hs)
  clear hf
  go_enter Tryz.func113, Tryz.ntmps113
  go_wp2
  go_loopw [1, 5] (fun p o wr => ∃ (acc : List Nat) (i n : Nat), p = .string (sn i) ∧ o = .string (txt acc) ∧ Hid (WayI (nxT (tabOf xs)) s acc i n) ∧ Below w.heap.size w wr) (fun _ o _ => 20 - strLen o)
  case atStart => exact ⟨[s], s, 19, rfl, rfl, hst, Below.refl _ _⟩
  case round =>
    obtain ⟨acc, i, n, rfl, rfl, hw, hb⟩ := hrel
    have hbs := hb.size
    have hil := hw.out.ilt
    have hal := hw.out.toAcc.len
    have hlt := hw.out.lt
    have hz := txt_size acc
    have hp := (ch_all i hil).2.2.1
    by_cases h9 : i < 9
    · have hp1 : isP (sn i) = true := by rw [hp]; simpa using h9
      have hsl := HLT.out i h9
      have hsr := HSrc.out i h9
      have hcall := HS.out wr (HX.out wr hb) (sn i)
      rw [hsr] at hcall
      have HC := Lib.hid hcall
      have HM := Lib.hid (txt_mem hlt hsl)
      have HIt := HHI.out acc i n hw.out h9
      have HGt := HGO.out acc i n hw.out h9
      have HI2 := Lib.hid HIt
      have HG2 := Lib.hid HGt
      have hts := txt_snoc acc (sx (tabOf xs) i)
      have HTS := Lib.hid hts
      clear hcall HIt HGt hts hsr
      generalize sx (tabOf xs) i = j at *
      have hszt : (txt acc).size ≤ 9223372036854775807 := by omega
      have hone : Hid (sn j = ⟨#[ch j]⟩) := rfl
      have HC2 : Hid (Calls Tryz.prog 86 #[v, .string (sn i)] wr fun e w' => e = .returned (.string ⟨#[ch j]⟩) ∧ Below wr.heap.size wr w') := HC.out
      clear HC
      have hpc := fun W => l1Place_c (sn i) W
      rw [hp1] at hpc
      have HP := Lib.hid hpc
      clear hpc hp hp1
      have hc1 : (⟨#[ch j]⟩ : ByteArray).size = 1 := rfl
      generalize ch j = c at *
      have HW := Lib.hid hw
      clear hw
      by_cases hin : (0 : Int) ≤ indexByte (txt acc).data.toList c
      · have HF : Hid (way (nxT (tabOf xs)) s = acc) := HI2.out (HM.out.1 ((indexByte_mem _ _).1 hin))
        go_wp2_with (first | (go_at_call 44; refine (HP.out _).mono ?_; rintro e w' ⟨rfl, rfl⟩) | (go_at_call 86; refine HC2.out.mono ?_; rintro e w2 ⟨rfl, hb2⟩) | (go_at_call 24; refine (l13Find_c (txt acc) c _ hszt).mono ?_; rintro e w' ⟨rfl, rfl⟩))
        go_ret
        exact ⟨by rw [HF.out]; rfl, hb.trans (hb2.mono hbs)⟩
      · obtain ⟨n', hn', hw'⟩ := HG2.out (fun hm => hin ((indexByte_mem _ _).2 (HM.out.2 hm)))
        have HN := Lib.hid hw'
        clear hw' hn'
        go_wp2_with (first | (go_at_call 44; refine (HP.out _).mono ?_; rintro e w' ⟨rfl, rfl⟩) | (go_at_call 86; refine HC2.out.mono ?_; rintro e w2 ⟨rfl, hb2⟩) | (go_at_call 24; refine (l13Find_c (txt acc) c _ hszt).mono ?_; rintro e w' ⟨rfl, rfl⟩))
        go_roundw
        case rel => exact ⟨acc ++ [j], j, n', by rw [hone.out], by rw [HTS.out, hone.out], HN, hb.trans (hb2.mono hbs)⟩
        case measure => simp [strLen, ByteArray.size_append, hc1, hz]; omega
    · have hp1 : isP (sn i) = false := by rw [hp]; simpa using h9
      have hpc := fun W => l1Place_c (sn i) W
      rw [hp1] at hpc
      have HP := Lib.hid hpc
      have HF := Lib.hid (HST.out acc i n hw.out h9)
      clear hpc hp hp1 hw
      go_wp2_with (go_at_call 44; refine (HP.out _).mono ?_; rintro e w' ⟨rfl, rfl⟩)
      go_ret
      exact ⟨by rw [HF.out]; rfl, hb⟩
end Go.Proofs.YthgcoocgeekdnaaGreatDoor
namespace Go.PW
open Go.PM
/-- where the way ends, and whether a ring goes round there -/
theorem ring_last {f : Nat → ByteArray} (hf : SV f) {s : Nat} (hs : s < 19) : ∃ i, (way (nxT f) s)[(way (nxT f) s).length - 1]? = some i ∧ i < 19 ∧ (onRb (nxT f) s = true ↔ 2 ≤ (way (nxT f) s).length ∧ i < 9 ∧ sx f i = s) := by
  have hn := nice hf
  have hr := way_rho hn hs
  have hp := hr.pos
  have h1 := hr.some_ (j := (way (nxT f) s).length - 1) (by omega)
  have h0 := hr.some_ hp
  refine ⟨_, List.getElem?_eq_getElem (by omega), hr.lt _ (List.getElem_mem _), ?_⟩
  generalize (way (nxT f) s)[(way (nxT f) s).length - 1]'(by omega) = i at *
  have h2 : orb (nxT f) s (way (nxT f) s).length = nxT f i := by
    have : orb (nxT f) s ((way (nxT f) s).length - 1 + 1) = (orb (nxT f) s ((way (nxT f) s).length - 1)).bind (nxT f) := rfl
    rw [show (way (nxT f) s).length - 1 + 1 = (way (nxT f) s).length by omega, h1] at this
    exact this
  unfold onRb
  rw [h2, decide_eq_true_eq]
  constructor
  · intro e
    have h9 := hn.low i s e
    have hi : i ≠ s := fun e2 => hn.irr i (by rw [e, e2])
    have hsx : sx f i = s := by
      by_cases e2 : sx f i = i
      · rw [nxT_stay h9 e2] at e; cases e
      · rw [nxT_some h9 e2] at e; exact Option.some.inj e
    refine ⟨?_, h9, hsx⟩
    rcases Nat.lt_or_ge 1 (way (nxT f) s).length with h | h
    · exact h
    · exfalso
      have h3 : (way (nxT f) s).length - 1 = 0 := by omega
      rw [h3] at h1
      have : orb (nxT f) s 0 = some s := rfl
      rw [this] at h1
      exact hi (Option.some.inj h1).symm
  · rintro ⟨hl, h9, hsx⟩
    have hi : sx f i ≠ i := by
      intro e
      have e2 : s = i := by rw [← hsx, e]
      have h3 : orb (nxT f) s 0 = orb (nxT f) s ((way (nxT f) s).length - 1) := by rw [h1, ← e2]; rfl
      have := hr.inj hp (by omega) h3
      omega
    rw [nxT_some h9 hi, hsx]
end Go.PW
namespace Go.Proofs.YthgcoocgeekdnaaGreatDoor
open Go.RowKit Go.PM Go.PW Go.Lib

set_option maxRecDepth 100000 in
set_option maxHeartbeats 1000000 in
theorem l3Ring_c (xs : List Mv) (h1 : MV xs) (v : Value) (s : Nat) (hs : s < 19) (w : World) (hx : RdM w v xs) :
    Calls Tryz.prog 111 #[v, .string (sn s)] w fun e w' => e = .returned (.string (txt (ringL (nxT (tabOf xs)) s))) ∧ Below w.heap.size w w' := by
  have hf := SV_tab h1
  obtain ⟨i, hi, hi19, hon⟩ := ring_last hf hs
  have hwl := (way_rho (nice hf) hs).len
  have hwp := (way_rho (nice hf) hs).pos
  have HR : Hid (ringL (nxT (tabOf xs)) s = if onRb (nxT (tabOf xs)) s then way (nxT (tabOf xs)) s else []) := rfl
  have HON := Lib.hid hon
  have HW := Lib.hid (l3Way_c xs h1 v s hs w hx)
  have hts := txt_size (way (nxT (tabOf xs)) s)
  have hext : (txt (way (nxT (tabOf xs)) s)).extract ((way (nxT (tabOf xs)) s).length - 1) (way (nxT (tabOf xs)) s).length = sn i := by
    have := extract_one (txt (way (nxT (tabOf xs)) s)) ((way (nxT (tabOf xs)) s).length - 1) (by omega)
    rw [show (way (nxT (tabOf xs)) s).length - 1 + 1 = (way (nxT (tabOf xs)) s).length by omega] at this
    rw [this, txt_list, List.getD_eq_getElem?_getD, List.getElem?_map, hi]
    rfl
  have hsrc : i < 9 → srcM xs (sn i) = sn (sx (tabOf xs) i) := fun h => by rw [sn_nm i h, ← srcM_nm h1 h, (sx_lt hf h).2]
  have hsx := fun h => (sx_lt hf (p := i) h).1
  have HS := Lib.hid (fun W (hW : RdM W v xs) => l1Source_c xs v (sn i) W hW)
  have hpl := fun W => l1Place_c (sn i) W
  rw [(ch_all i hi19).2.2.1] at hpl
  clear hi hon
  have hring : onRb (nxT (tabOf xs)) s = true → ringL (nxT (tabOf xs)) s = way (nxT (tabOf xs)) s := fun h => by rw [ringL, if_pos h]
  have hnone : ¬ onRb (nxT (tabOf xs)) s = true → ringL (nxT (tabOf xs)) s = [] := fun h => by rw [ringL, if_neg h]
  generalize way (nxT (tabOf xs)) s = wy at *
  have hsz : (txt wy).size = wy.length := hts
  by_cases hL : 2 ≤ wy.length
  · by_cases h9 : i < 9
    · rw [show decide (i < 9) = true by simpa using h9] at hpl
      have HPL := Lib.hid hpl
      have hsj := hsx h9
      have HS2 : Hid (∀ W, RdM W v xs → Calls Tryz.prog 86 #[v, .string (sn i)] W fun e w' => e = .returned (.string (sn (sx (tabOf xs) i))) ∧ Below W.heap.size W w') := by
        rw [← hsrc h9]; exact HS.out
      clear hpl hsrc HS
      by_cases hj : sx (tabOf xs) i = s
      · have HF : Hid (ringL (nxT (tabOf xs)) s = wy) := hring (HON.out.2 ⟨hL, h9, hj⟩)
        clear hring hnone HON HR
        generalize sx (tabOf xs) i = j at *
        subst hj
        have hb0 : ((sn j).toList == (sn j).toList) = true := by simp
        go_enter Tryz.func111, Tryz.ntmps111
        go_wp2_with fail
        refine HW.out.mono ?_
        rintro e w1 ⟨rfl, hb1⟩
        have hs1 := hb1.size
        have hx1 := hx.below hb1
        have HT : Hid (txt (ringL (nxT (tabOf xs)) j) = txt wy) := by show _ = _; rw [HF.out]
        generalize txt wy = t at *
        go_wp2_with (first | (go_at_call 44; refine (HPL.out _).mono ?_; rintro e w' ⟨rfl, rfl⟩) | (go_at_call 86; refine (HS2.out _ hx1).mono ?_; rintro e w2 ⟨rfl, hb2⟩))
        go_ret
        exact ⟨by rw [HT.out]; rfl, hb1.trans (hb2.mono hs1)⟩
      · have HF : Hid (ringL (nxT (tabOf xs)) s = []) := hnone (fun h => hj (HON.out.1 h).2.2)
        clear hring hnone HON HR
        generalize sx (tabOf xs) i = j at *
        have hb0 : ((sn j).toList == (sn s).toList) = false := by
          rw [beq_str, decide_eq_false_iff_not]; exact fun e => hj (sn_inj hsj hs e)
        go_enter Tryz.func111, Tryz.ntmps111
        go_wp2_with fail
        refine HW.out.mono ?_
        rintro e w1 ⟨rfl, hb1⟩
        have hs1 := hb1.size
        have hx1 := hx.below hb1
        generalize txt wy = t at *
        go_wp2_with (first | (go_at_call 44; refine (HPL.out _).mono ?_; rintro e w' ⟨rfl, rfl⟩) | (go_at_call 86; refine (HS2.out _ hx1).mono ?_; rintro e w2 ⟨rfl, hb2⟩))
        go_ret
        exact ⟨by rw [HF.out]; rfl, hb1.trans (hb2.mono hs1)⟩
    · rw [show decide (i < 9) = false by simpa using h9] at hpl
      have HPL := Lib.hid hpl
      have HF : Hid (ringL (nxT (tabOf xs)) s = []) := hnone (fun h => h9 (HON.out.1 h).2.1)
      clear hring hnone HON HR hpl hsrc HS
      go_enter Tryz.func111, Tryz.ntmps111
      go_wp2_with fail
      refine HW.out.mono ?_
      rintro e w1 ⟨rfl, hb1⟩
      generalize txt wy = t at *
      go_wp2_with (go_at_call 44; refine (HPL.out _).mono ?_; rintro e w' ⟨rfl, rfl⟩)
      go_ret
      exact ⟨by rw [HF.out]; rfl, hb1⟩
  · have HF : Hid (ringL (nxT (tabOf xs)) s = []) := hnone (fun h => hL (HON.out.1 h).1)
    clear hring hnone HON HR hpl hsrc HS
    go_enter Tryz.func111, Tryz.ntmps111
    go_wp2_with fail
    refine HW.out.mono ?_
    rintro e w1 ⟨rfl, hb1⟩
    generalize txt wy = t at *
    go_wp2
    go_ret
    exact ⟨by rw [HF.out]; rfl, hb1⟩
end Go.Proofs.YthgcoocgeekdnaaGreatDoor
namespace Go.PM
open Go.RowKit
def mdig : Nat → Nat → List UInt8
  | 0, _ => []
  | f + 1, n => if n = 0 then [] else mdig f (n / 10) ++ [UInt8.ofNat (48 + n % 10)]
def mT (k : Nat) : ByteArray := if k = 0 then ⟨#[109, 48]⟩ else ⟨(109 :: mdig k k).toArray⟩
theorem mdig_zero (f : Nat) : mdig f 0 = [] := by cases f <;> simp [mdig]
theorem mdig_step (f n : Nat) (h : n ≤ f) (h0 : 0 < n) : ∃ f', f = f' + 1 ∧ n / 10 ≤ f' ∧ mdig f n = mdig f' (n / 10) ++ [UInt8.ofNat (48 + n % 10)] := by
  cases f with
  | zero => omega
  | succ f => exact ⟨f, rfl, by omega, by simp [mdig]; omega⟩
end Go.PM
namespace Go.Proofs.YthgcoocgeekdnaaGreatDoor
open Go.RowKit Go.PM

theorem conv_one (W : World) (c : Int) : (convert 22 9 (.slice (some ⟨W.heap.size, 0, none⟩) 1 1)).run Tryz.prog (W.alloc (.cells #[.int .u8 c] 5)) =
    .ok (.string ⟨#[UInt8.ofNat c.toNat]⟩) (W.alloc (.cells #[.int .u8 c] 5)) := by
  rw [run_convert_bytes_string _ _ _ _ _ _ _ Tryz.underlying22 Tryz.underlying5 Tryz.underlying9]
  have hl : (loadCells ⟨W.heap.size, 0, none⟩ 1).run Tryz.prog (W.alloc (.cells #[.int .u8 c] 5)) = .ok ([c].map (Value.int .u8)).toArray (W.alloc (.cells #[.int .u8 c] 5)) :=
    run_loadCells_list (P := Tryz.prog) (W.alloc (.cells #[.int .u8 c] 5)) ⟨W.heap.size, 0, none⟩ [Value.int .u8 c] (fun j v hj => by
      cases j with
      | zero =>
        simp [Addr.add] at hj ⊢
        exact hj
      | succ j => simp at hj)
  rw [run_bytesToString (ns := [c]) _ _ _ _ hl]
  rfl

/-- the cells behind n marked moves, the first mark being number k -/
def marks : Nat → Nat → List Mv
  | 0, _ => []
  | n + 1, k => (mT k, mT (k + 1)) :: marks n (k + 2)
theorem marks_length (n k : Nat) : (marks n k).length = n := by
  induction n generalizing k with
  | zero => rfl
  | succ n ih => simp [marks, ih]
theorem marks_at (n k i : Nat) (h : i < (marks n k).length) : (marks n k)[i] = (mT (k + 2 * i), mT (k + 2 * i + 1)) := by
  induction n generalizing k i with
  | zero => simp [marks] at h
  | succ n ih =>
    cases i with
    | zero => rfl
    | succ i =>
      simp only [marks, List.getElem_cons_succ]
      rw [ih]
      congr 2 <;> omega
/-- the first i of the moves are marked -/
def mmix (xs : List Mv) (i k : Nat) : List Mv := marks i k ++ xs.drop i
theorem marks_snoc (i k : Nat) : marks (i + 1) k = marks i k ++ [(mT (k + 2 * i), mT (k + 2 * i + 1))] := by
  induction i generalizing k with
  | zero => rfl
  | succ i ih =>
    rw [marks, ih (k + 2)]
    simp only [marks, List.cons_append]
    rw [show k + 2 + 2 * i = k + 2 * (i + 1) by omega]
theorem mmix_length (xs : List Mv) (i k : Nat) (h : i ≤ xs.length) : (mmix xs i k).length = xs.length := by
  simp [mmix, marks_length]; omega
theorem mmix_set (xs : List Mv) (i k : Nat) (h : i < xs.length) : ((mcells (mmix xs i k)).set (i * 2) (.string (mT (k + 2 * i)))).set (i * 2 + 1) (.string (mT (k + 2 * i + 1))) = mcells (mmix xs (i + 1) k) := by
  have hl : (mcells (marks i k)).length = i * 2 := by rw [mcells_length, marks_length]
  unfold mmix
  rw [marks_snoc, List.drop_eq_getElem_cons h, mcells_append, mcells_append, mcells_append, mcells_cons]
  rw [List.set_append_right _ _ (by omega), List.set_append_right _ _ (by omega), hl, Nat.sub_self, show i * 2 + 1 - i * 2 = 1 by omega]
  simp [mcells]

end Go.Proofs.YthgcoocgeekdnaaGreatDoor
namespace Go.PM
open Go.RowKit
def tcells (ts : List ByteArray) : List Value := ts.map Value.string
theorem tcells_length (ts : List ByteArray) : (tcells ts).length = ts.length := by simp [tcells]
theorem tcells_append (a b : List ByteArray) : tcells (a ++ b) = tcells a ++ tcells b := by simp [tcells]
def RdT (w : World) (v : Value) (ts : List ByteArray) : Prop := Rd w 1 v ts.length (tcells ts)
theorem RdT.below {w w' : World} {v : Value} {ts : List ByteArray} (h : RdT w v ts) (hb : Below w.heap.size w w') : RdT w' v ts := Rd.below h hb
theorem RdT.open {w : World} {v : Value} {ts : List ByteArray} (h : RdT w v ts) : ∃ A cap, v = .slice A ts.length cap ∧ ts.length ≤ 9223372036854775807 ∧ ts.length ≤ cap ∧
    ∀ k (hk : k < ts.length), ∃ b off, A = some ⟨b, off, none⟩ ∧ b < w.heap.size ∧ w.cell? ⟨b, off + k, none⟩ = some (.string ts[k]) := by
  obtain ⟨A, cap, e, hc, hn, hl, hr⟩ := h
  refine ⟨A, cap, e, hn, hc, fun k hk => ?_⟩
  obtain ⟨b, off, eA, hb, hcell⟩ := hr (by omega)
  exact ⟨b, off, eA, hb, hcell _ _ (by unfold tcells; rw [List.getElem?_map, List.getElem?_eq_getElem hk]; rfl)⟩
/-- n marked texts, the first mark being number k -/
def tmarks : Nat → Nat → List ByteArray
  | 0, _ => []
  | n + 1, k => mT k :: tmarks n (k + 1)
theorem tmarks_length (n k : Nat) : (tmarks n k).length = n := by
  induction n generalizing k with
  | zero => rfl
  | succ n ih => simp [tmarks, ih]
theorem tmarks_at (n k i : Nat) (h : i < (tmarks n k).length) : (tmarks n k)[i] = mT (k + i) := by
  induction n generalizing k i with
  | zero => simp [tmarks] at h
  | succ n ih =>
    cases i with
    | zero => rfl
    | succ i =>
      simp only [tmarks, List.getElem_cons_succ]
      rw [ih]
      congr 1; omega
def tmix (ts : List ByteArray) (i k : Nat) : List ByteArray := tmarks i k ++ ts.drop i
theorem tmarks_snoc (i k : Nat) : tmarks (i + 1) k = tmarks i k ++ [mT (k + i)] := by
  induction i generalizing k with
  | zero => rfl
  | succ i ih =>
    rw [tmarks, ih (k + 1)]
    simp only [tmarks, List.cons_append]
    rw [show k + 1 + i = k + (i + 1) by omega]
theorem tmix_length (ts : List ByteArray) (i k : Nat) (h : i ≤ ts.length) : (tmix ts i k).length = ts.length := by
  simp [tmix, tmarks_length]; omega
theorem tmix_set (ts : List ByteArray) (i k : Nat) (h : i < ts.length) : (tcells (tmix ts i k)).set i (.string (mT (k + i))) = tcells (tmix ts (i + 1) k) := by
  have hl : (tcells (tmarks i k)).length = i := by rw [tcells_length, tmarks_length]
  unfold tmix
  rw [tmarks_snoc, List.drop_eq_getElem_cons h, tcells_append, tcells_append, tcells_append]
  rw [List.set_append_right _ _ (by omega), hl, Nat.sub_self]
  simp only [tcells, List.map_cons, List.map_nil, List.set_cons_zero, List.append_assoc, List.cons_append, List.nil_append]
end Go.PM
namespace Go.Proofs.YthgcoocgeekdnaaGreatDoor
open Go.RowKit Go.PM

end Go.Proofs.YthgcoocgeekdnaaGreatDoor
namespace Go.PW
open Go.PM
def ringsT (nx : Nat → Option Nat) (k : Nat) : List ByteArray := (ringsF nx k).map txt
def ringsB (xs : List Mv) : List ByteArray := if mvalid xs then ringsT (nxT (tabOf xs)) 9 else []
theorem ringsB_len (xs : List Mv) : (ringsB xs).length ≤ 1000 := by
  unfold ringsB
  by_cases h : mvalid xs = true
  · rw [if_pos h]
    have := (ringsF_lt (nice (SV_tab (by simpa [mvalid] using h))) 9 (by omega)).2.1
    unfold ringsT; rw [List.length_map]; omega
  · rw [if_neg h]; simp
theorem way_first (nx : Nat → Option Nat) (s : Nat) (hn : Nice nx) (hs : s < 19) : ∃ l, way nx s = s :: l := by
  have hr := way_rho hn hs
  have h1 := hr.at_ 0 hr.pos
  cases hw : way nx s with
  | nil => have := hr.pos; rw [hw] at this; simp at this
  | cons a l =>
    rw [hw] at h1
    simp only [List.getElem?_cons_zero, orb, Option.some.injEq] at h1
    subst h1; exact ⟨l, rfl⟩
end Go.PW
namespace Go.Proofs.YthgcoocgeekdnaaGreatDoor
open Go.RowKit Go.PM Go.PW Go.Lib

set_option maxRecDepth 100000 in
set_option maxHeartbeats 1000000 in
theorem l3Rings_c (xs : List Mv) (h1 : MV xs) (v : Value) (w : World) (hx : RdM w v xs) :
    Calls Tryz.prog 99 #[v] w fun e w' => ∃ v', e = .returned v' ∧ w'.ownsRow w.heap.size 9 1 v' (ringsT (nxT (tabOf xs)) 9).length (tcells (ringsT (nxT (tabOf xs)) 9)) ∧ Below w.heap.size w w' := by
  have hf := SV_tab h1
  have hn := nice hf
  have HN : Hid (∀ q, q < 9 → (ByteArray.mk #[97, 98, 99, 100, 101, 102, 65, 66, 67]).extract q (q+1) = sn q) := by
    show ∀ q, _
    intro q hq
    match q, hq with
    | 0, _ | 1, _ | 2, _ | 3, _ | 4, _ | 5, _ | 6, _ | 7, _ | 8, _ => decide +kernel
  have HRG := Lib.hid (fun i (hi : i < 19) W (hW : RdM W v xs) => l3Ring_c xs h1 v i hi W hW)
  have HX := Lib.hid (fun W (hW : Below w.heap.size w W) => hx.below hW)
  have hE := World.ownsRow_lit (e := 9) (base := w.heap.size) (size := 1) w #[] 0 (Nat.le_refl _) (Nat.zero_le _) rfl
  have HLT := Lib.hid (fun k (hk : k ≤ 9) => ringsF_lt hn k hk)
  have HYES := Lib.hid (fun k => ringsF_yes (nx := nxT (tabOf xs)) (k := k))
  have HNO := Lib.hid (fun k => ringsF_no (nx := nxT (tabOf xs)) (k := k))
  have HON := Lib.hid (fun s (h : onRb (nxT (tabOf xs)) s = true) => show ringL (nxT (tabOf xs)) s = way (nxT (tabOf xs)) s by rw [ringL, if_pos h])
  have HOFF := Lib.hid (fun s (h : ¬ onRb (nxT (tabOf xs)) s = true) => show ringL (nxT (tabOf xs)) s = [] by rw [ringL, if_neg h])
  have HFI := Lib.hid (fun s hs => way_first (nxT (tabOf xs)) s hn hs)
  have HWL := Lib.hid (fun s (hs : s < 19) => (way_rho hn hs).len)
  have HT : Hid (∀ k, ringsT (nxT (tabOf xs)) k = (ringsF (nxT (tabOf xs)) k).map txt) := fun _ => rfl
  have H0 : Hid (ringsF (nxT (tabOf xs)) 0 = []) := rfl
  clear hf hn
  generalize nxT (tabOf xs) = nx at *
  go_enter Tryz.func99, Tryz.ntmps99
  go_wp2
  go_loopw [3, 4, 5, 6, 8] (fun o sn _ _ i wr => ∃ (k : Nat), k ≤ 9 ∧ i = .int .i64 k ∧ wr.ownsRow w.heap.size 9 1 o (ringsT nx k).length (tcells (ringsT nx k)) ∧ sn = .string (txt (ringsF nx k).flatten) ∧ Below w.heap.size w wr) (fun _ _ _ _ i _ => 9 - (RowKit.intOf i).toNat)
  case atStart => exact ⟨0, by omega, rfl, by rw [HT.out, H0.out]; exact hE, by rw [H0.out]; rfl, by (repeat' (first | (with_reducible exact Below.refl _ _) | (with_reducible assumption) | (with_reducible refine Below.alloc ?_ ?_ _) | (with_reducible refine Below.drew ?_) | (with_reducible refine Below.setCell ?_ ?_ _) | (with_reducible exact Nat.le_refl _) | omega | ((repeat (first | rewrite [World.size_alloc] | rewrite [World.size_setCell] | rewrite [World.size_drew])); omega) | (simp; omega) | (simp; done)))⟩
  case round =>
    obtain ⟨k, hk, rfl, ho, rfl, hb⟩ := hrel
    have hbs := hb.size
    by_cases hlt : k < 9
    · have hex := HN.out k hlt
      have hxr := HX.out wr hb
      have hrg := HRG.out k (by omega) wr hxr
      by_cases hon : onRb nx k = true
      · rw [HON.out k hon] at hrg
        obtain ⟨l, hl⟩ := HFI.out k (by omega)
        have hwl := HWL.out k (by omega)
        have hsz := txt_size (way nx k)
        have hfl := HLT.out k hk
        have hfz := txt_size (ringsF nx k).flatten
        have hmem := txt_mem hfl.1 (show k < 19 by omega)
        have ht0 : ∀ h : 0 < (txt (way nx k)).size, (txt (way nx k))[0] = ch k := by
          rw [hl]; intro h; rfl
        have hpos : 0 < (way nx k).length := by rw [hl]; simp
        have HRX := Lib.hid hrg
        have HME := Lib.hid hmem
        clear hrg hmem hl
        by_cases hin : k ∈ (ringsF nx k).flatten
        · have hno := HNO.out k (fun h => h.2 hin)
          have HNX := Lib.hid hno
          have HIX : Hid ((0 : Int) ≤ indexByte (txt (ringsF nx k).flatten).data.toList (ch k)) := (indexByte_mem _ _).2 (HME.out.2 hin)
          clear hno hin
          generalize txt (way nx k) = t at *
          generalize ch k = c at *
          generalize hsfe : txt (ringsF nx k).flatten = sf at *
          have HSF := Lib.hid hsfe
          clear hsfe
          have hne : t.toList.isEmpty = false := by
            rw [ByteArray.toList_eq]
            cases hl : t.data.toList with
            | nil => have := size_data t; rw [hl] at this; simp at this; omega
            | cons a l => rfl
          have htp : 0 < t.size := by omega
          have ht1 := ht0 htp
          clear ht0
          have hsf : sf.size ≤ 9223372036854775807 := by have := hfl.2.2; omega
          go_wp2_with fail
          refine HRX.out.mono ?_
          rintro e w2 ⟨rfl, hb2⟩
          have ho2 := own_keep ho hb2
          have hbw := hb.trans (hb2.mono hbs)
          have hbws := hbw.size
          clear hb2 ho
          have hix := HIX.out
          go_wp2_with (go_at_call 24; refine (l13Find_c sf c _ hsf).mono ?_; rintro e w' ⟨rfl, rfl⟩)
          go_roundw
          case rel => exact ⟨k + 1, by omega, by go_num, by rw [HT.out, HNX.out, ← HT.out]; exact ho2, by rw [HNX.out, HSF.out], hbw⟩
          case measure => simp [RowKit.intOf]; omega
        · have hyes := HYES.out k hon hin
          have HNX := Lib.hid hyes
          have HIX : Hid (¬ (0 : Int) ≤ indexByte (txt (ringsF nx k).flatten).data.toList (ch k)) := fun h => hin (HME.out.1 ((indexByte_mem _ _).1 h))
          have HTX : Hid (ringsT nx (k + 1) = ringsT nx k ++ [txt (way nx k)]) := by show _ = _; rw [HT.out, HT.out, hyes]; simp
          have HSX : Hid (txt (ringsF nx (k + 1)).flatten = txt (ringsF nx k).flatten ++ txt (way nx k)) := by
            show _ = _
            rw [hyes, List.flatten_append, txt_append]; simp
          have hrl : (ringsT nx k).length ≤ 9 := by rw [HT.out, List.length_map]; have := hfl.2.1; omega
          clear hyes hin
          generalize txt (way nx k) = t at *
          generalize ch k = c at *
          generalize hsfe : txt (ringsF nx k).flatten = sf at *
          have HSF := Lib.hid hsfe
          clear hsfe
          have hne : t.toList.isEmpty = false := by
            rw [ByteArray.toList_eq]
            cases hl : t.data.toList with
            | nil => have := size_data t; rw [hl] at this; simp at this; omega
            | cons a l => rfl
          have htp : 0 < t.size := by omega
          have ht1 := ht0 htp
          clear ht0
          have hsf : sf.size ≤ 9223372036854775807 := by have := hfl.2.2; omega
          go_wp2_with fail
          refine HRX.out.mono ?_
          rintro e w2 ⟨rfl, hb2⟩
          have ho2 := own_keep ho hb2
          have hbw := hb.trans (hb2.mono hbs)
          have hbws := hbw.size
          have hix := HIX.out
          have hlt0 : indexByte sf.data.toList c < 0 := by omega
          have hnw := one_new w2 (.string t) 9
          have hown0 := own_keep ho2 ((Below.refl _ _).alloc (Nat.le_refl _) (.cells #[.string t] 9))
          go_wp2_with (first | (go_at_call 24; refine (l13Find_c sf c _ hsf).mono ?_; rintro e w' ⟨rfl, rfl⟩) | (at_builtin; refine app_str rfl (.tmp 26) (.tmp 28) rfl w.heap.size u3 (ringsT nx k) t ⟨w2.heap.size, 0, none⟩ 1 (by rfl) (by rfl) hown0 hnw (by omega) (by simp; omega) ?_; intro v' w3 hown3 hgrow3))
          have hb3 := below_grown hgrow3 (B := w.heap.size) (by simp; omega) (own_block_ge ho)
          have hbw3 := (hbw.alloc hbws (.cells #[.string t] 9)).trans hb3
          go_roundw
          case rel =>
            refine ⟨k + 1, by omega, by go_num, ?_, by rw [HSX.out], hbw3⟩
            rw [HTX.out]; exact hown3
          case measure => simp [RowKit.intOf]; omega
      · rw [HOFF.out k hon] at hrg
        have HRX := Lib.hid hrg
        have HNX := Lib.hid (HNO.out k (fun h => hon h.1))
        clear hrg
        go_wp2_with fail
        refine HRX.out.mono ?_
        rintro e w2 ⟨rfl, hb2⟩
        rw [show txt [] = ⟨#[]⟩ from rfl]
        have ho2 := own_keep ho hb2
        have hbw := hb.trans (hb2.mono hbs)
        clear hb2 ho
        go_wp2
        go_roundw
        case rel => exact ⟨k + 1, by omega, by go_num, by rw [HT.out, HNX.out, ← HT.out]; exact ho2, by rw [HNX.out], hbw⟩
        case measure => simp [RowKit.intOf]; omega
    · have hk9 : k = 9 := by omega
      subst hk9
      go_wp2
      go_ret
      exact ⟨_, rfl, ho, hb⟩

end Go.Proofs.YthgcoocgeekdnaaGreatDoor
namespace Go.PW
open Go.RowKit Go.PM
def spotV (b : Nat) : Option Nat → Value
  | none => .pointer none
  | some j => .pointer (some ⟨b, j * 2, none⟩)
/-- the spots lie in block b -/
structure Spots (w : World) (b : Nat) (nx : Nat → Option Nat) : Prop where
  row : ∃ t cs, At w b t cs
  name : ∀ i, i < 19 → w.cell? ⟨b, i * 2, none⟩ = some (.string (sn i))
  src : ∀ i, i < 19 → w.cell? ⟨b, i * 2 + 1, none⟩ = some (spotV b (nx i))
theorem Spots.lt {w : World} {b : Nat} {nx : Nat → Option Nat} (h : Spots w b nx) : b < w.heap.size := by
  obtain ⟨t, cs, h⟩ := h.row; exact h.lt
theorem Spots.below {w w' : World} {b : Nat} {nx : Nat → Option Nat} (h : Spots w b nx) (hb : Below w.heap.size w w') : Spots w' b nx :=
  ⟨by obtain ⟨t, cs, h⟩ := h.row; exact ⟨t, cs, h.keep hb⟩, fun i hi => (hb.cell (p := ⟨b, i * 2, none⟩) h.lt).trans (h.name i hi), fun i hi => (hb.cell (p := ⟨b, i * 2 + 1, none⟩) h.lt).trans (h.src i hi)⟩
/-- two pointers that walk: r rounds are left at most -/
def Run (ob : Nat → Option Nat) (b K : Nat) (r : Nat) (sl fa : Value) : Prop := ∃ k, k + r = K ∧ 0 < r ∧ sl = spotV b (ob k) ∧ fa = spotV b (ob (2 * k))
theorem Run.next {ob : Nat → Option Nat} {b K k : Nat} {X Y X0 Y0 : Value} (h1 : k + least (fun r => Run ob b K r X0 Y0) = K) (hk : k + 1 < K) (hX : X = spotV b (ob (k + 1))) (hY : Y = spotV b (ob (2 * (k + 1)))) :
    (∃ r, Run ob b K r X Y) ∧ least (fun r => Run ob b K r X Y) < least (fun r => Run ob b K r X0 Y0) := by
  have h : Run ob b K (K - (k + 1)) X Y := ⟨k + 1, by omega, by omega, hX, hY⟩
  refine ⟨⟨_, h⟩, ?_⟩
  have := (least_spec (P := fun r => Run ob b K r X Y) ⟨_, h⟩).2 _ h
  omega
end Go.PW
namespace Go.Proofs.YthgcoocgeekdnaaGreatDoor
open Go.RowKit Go.PM Go.PW Go.Lib

theorem infoSp : (Tryz.prog.info? 128).map (fun i => (i.zero, i.size, i.bytes)) = some (some (.agg #[.string ⟨#[]⟩, .pointer none]), 2, 24) := by kernel_rfl
theorem eqlp_yes (w : World) (a : Addr) : (binOp .eql 126 (.pointer (some a)) (.pointer (some a))).run Tryz.prog w = .ok (.bool true) w := by
  obtain ⟨i0, hi0, hz0, hz1, hz2⟩ := info_parts infoSp
  exact run_eql_ptr_same w a Tryz.underlying126 hi0
theorem eqlp_no (w : World) (b : Nat) (nx : Nat → Option Nat) (hS : Spots w b nx) (i j : Nat) (h : ¬ i = j) : (binOp .eql 126 (.pointer (some ⟨b, i * 2, none⟩)) (.pointer (some ⟨b, j * 2, none⟩))).run Tryz.prog w = .ok (.bool false) w := by
  obtain ⟨i0, hi0, hz0, hz1, hz2⟩ := info_parts infoSp
  obtain ⟨t, cs, hA⟩ := hS.row
  exact run_eql_ptr_other w Tryz.underlying126 hi0 (by rw [hz1]; decide) (by intro e; injection e with _ e; omega) hA hA
theorem neqp_yes (w : World) (a : Addr) : (binOp .neq 126 (.pointer (some a)) (.pointer (some a))).run Tryz.prog w = .ok (.bool false) w := by
  have h := eqlp_yes w a
  simp only [binOp] at h ⊢
  simp only [Sem.run_bind] at h ⊢
  revert h
  cases (Op.equal 126 (.pointer (some a)) (.pointer (some a))).run Tryz.prog w <;> simp [Result.andThen]
theorem neqp_no (w : World) (b : Nat) (nx : Nat → Option Nat) (hS : Spots w b nx) (i j : Nat) (h : ¬ i = j) : (binOp .neq 126 (.pointer (some ⟨b, i * 2, none⟩)) (.pointer (some ⟨b, j * 2, none⟩))).run Tryz.prog w = .ok (.bool true) w := by
  have h := eqlp_no w b nx hS i j h
  simp only [binOp] at h ⊢
  simp only [Sem.run_bind] at h ⊢
  revert h
  cases (Op.equal 126 (.pointer (some ⟨b, i * 2, none⟩)) (.pointer (some ⟨b, j * 2, none⟩))).run Tryz.prog w <;> simp [Result.andThen]

set_option maxRecDepth 100000 in
set_option maxHeartbeats 1000000 in
theorem meeting_c (b : Nat) (nx : Nat → Option Nat) (hn : Nice nx) (s : Nat) (hs : s < 19) (w : World) (hS : Spots w b nx) :
    Calls Tryz.prog 112 #[spotV b (some s)] w fun e w' => (∃ m, e = .returned (spotV b m) ∧ Meet nx s m) ∧ Below w.heap.size w w' := by
  have hmt := (way_rho hn hs).meets
  obtain ⟨K, hK1, hK2, hK3⟩ := hmt
  have HK3 := Lib.hid hK3
  have HL := Lib.hid (fun k i (h : orb nx s k = some i) => orb_lt hn hs k i h)
  have HO := Lib.hid (show ∀ k, orb nx s (k + 1) = (orb nx s k).bind nx from fun _ => rfl)
  have HZ : Hid (orb nx s 0 = some s) := rfl
  have HG := Lib.hid (fun a b (h : orb nx s a = none) (hab : a ≤ b) => orb_none_ge h hab)
  have HM : Hid (∀ m, Meet nx s m ↔ (m = none ∧ ∃ k, orb nx s k = none) ∨ ∃ k, 0 < k ∧ m = orb nx s k ∧ orb nx s k = orb nx s (2 * k)) := fun _ => Iff.rfl
  have hbl := hS.lt
  clear hK3 hn
  generalize orb nx s = ob at *
  change Calls Tryz.prog _ #[.pointer (some ⟨b, s * 2, none⟩)] w _
  go_enter Tryz.func112, Tryz.ntmps112
  go_wp2
  go_loopw [3, 4] (fun sl fa wr => (∃ r, Run ob b K r sl fa) ∧ Below w.heap.size w wr) (fun sl fa _ => least (fun r => Run ob b K r sl fa))
  case atStart => exact ⟨⟨K, 0, by omega, by omega, by rw [HZ.out]; rfl, by rw [HZ.out]; rfl⟩, Below.refl _ _⟩
  case round =>
    obtain ⟨hru, hb⟩ := hrel
    obtain ⟨k, hk0, hk1, e3, e4⟩ := (least_spec hru).1
    clear hru
    have HK0 := Lib.hid hk0
    have hk : k < K := by omega
    clear hk0 hk1
    subst e3 e4
    have hS2 := hS.below hb
    have hbs := hb.size
    cases hfa : ob (2 * k) with
    | none =>
      have HF := Lib.hid hfa
      clear hfa
      rw [show spotV b none = .pointer none from rfl]
      go_wp2
      go_ret
      exact ⟨⟨none, rfl, (HM.out none).2 (.inl ⟨rfl, _, HF.out⟩)⟩, hb⟩
    | some j =>
      have hjl := HL.out _ _ hfa
      have hcj := hS2.src j hjl
      rw [show spotV b (some j) = .pointer (some ⟨b, j * 2, none⟩) from rfl]
      cases hj2 : nx j with
      | none =>
        have HE : Hid (ob (2 * k + 1) = none) := by show _ = _; rw [HO.out, hfa]; exact hj2
        rw [hj2, show spotV b none = .pointer none from rfl] at hcj
        clear hj2 hfa
        go_wp2
        go_ret
        exact ⟨⟨none, rfl, (HM.out none).2 (.inl ⟨rfl, _, HE.out⟩)⟩, hb⟩
      | some j2 =>
        rw [hj2, show spotV b (some j2) = .pointer (some ⟨b, j2 * 2, none⟩) from rfl] at hcj
        have h21 : ob (2 * k + 1) = some j2 := by rw [HO.out, hfa]; exact hj2
        have h22 : ob (2 * (k + 1)) = nx j2 := by rw [show 2 * (k + 1) = 2 * k + 1 + 1 by omega, HO.out, h21]; rfl
        have hl2 := HL.out _ _ h21
        have hc2 := hS2.src j2 hl2
        cases hsl : ob k with
        | none => rw [HG.out _ _ hsl (show k ≤ 2 * k by omega)] at hfa; cases hfa
        | some i =>
          have hil := HL.out _ _ hsl
          have hci := hS2.src i hil
          have h11 : ob (k + 1) = nx i := by rw [HO.out, hsl]; rfl
          rw [show spotV b (some i) = .pointer (some ⟨b, i * 2, none⟩) from rfl]
          have HK1 : Hid (k + least (fun r => Run ob b K r (.pointer (some ⟨b, i * 2, none⟩)) (.pointer (some ⟨b, j * 2, none⟩))) = K) := by
            have h0 := HK0.out
            rw [hsl, hfa] at h0
            exact h0
          have H22 := Lib.hid h22
          have H11 := Lib.hid h11
          clear hj2 hfa h22 h11 hsl h21
          generalize nx j2 = f2 at *
          generalize nx i = s2 at *
          go_wp2
          have cx1 : ∀ x : Ext w.heap.size wr, x.val.cell? ⟨b, i * 2 + 1, none⟩ = some (spotV b s2) := fun x => (x.property.cell (p := ⟨b, i * 2 + 1, none⟩) hbl).trans hci
          have cx2 : ∀ x : Ext w.heap.size wr, x.val.cell? ⟨b, j * 2 + 1, none⟩ = some (.pointer (some ⟨b, j2 * 2, none⟩)) := fun x => (x.property.cell (p := ⟨b, j * 2 + 1, none⟩) hbl).trans hcj
          have cx3 : ∀ x : Ext w.heap.size wr, x.val.cell? ⟨b, j2 * 2 + 1, none⟩ = some (spotV b f2) := fun x => (x.property.cell (p := ⟨b, j2 * 2 + 1, none⟩) hbl).trans hc2
          refine wp_region_ext w.heap.size (by kernel_rfl) (by kernel_rfl) ?_
          repeat (go_big_quiet_step (fail))
          refine wpQuiet_nil ?_
          intro w2 hw'
          obtain ⟨xw, hxw⟩ := hw'
          have hb2 := xw.property
          rw [← hxw] at hb2
          clear hxw xw cx1 cx2 cx3 hcj hc2 hci
          have hbw := hb.trans hb2
          have HEQ : Hid (s2 = f2 → Meet nx s s2) := fun e => (HM.out s2).2 (.inr ⟨k + 1, by omega, H11.out.symm, by rw [H11.out, H22.out, e]⟩)
          have HNE : Hid (s2 ≠ f2 → k + 1 < K) := by
            intro e
            rcases Nat.lt_or_ge (k + 1) K with h1 | h1
            · exact h1
            · exfalso
              have : k + 1 = K := by omega
              have h2 := HK3.out
              rw [← this, H11.out, H22.out] at h2
              exact e h2
          have HNX : Hid (s2 = ob (k + 1) ∧ f2 = ob (2 * (k + 1))) := ⟨H11.out.symm, H22.out.symm⟩
          clear H11 H22
          cases s2 with
          | none =>
            cases f2 with
            | none =>
              have HT := Lib.hid (HEQ.out rfl)
              rw [show spotV b none = .pointer none from rfl]
              go_wp2
              go_ret
              exact ⟨⟨none, rfl, HT.out⟩, hbw⟩
            | some j3 =>
              exfalso
              have h1 := HG.out _ _ HNX.out.1.symm (show k + 1 ≤ 2 * (k + 1) by omega)
              rw [← HNX.out.2] at h1; cases h1
          | some i2 =>
            cases f2 with
            | none =>
              have hk2 := HNE.out (by intro h; cases h)
              rw [show spotV b none = .pointer none from rfl, show spotV b (some i2) = .pointer (some ⟨b, i2 * 2, none⟩) from rfl]
              have HFIN := Lib.hid (Run.next (X := .pointer (some ⟨b, i2 * 2, none⟩)) (Y := .pointer none) HK1.out hk2 (by rw [← HNX.out.1]; rfl) (by rw [← HNX.out.2]; rfl))
              go_wp2
              go_roundw
              case rel => exact ⟨HFIN.out.1, hbw⟩
              case measure => exact HFIN.out.2
            | some j3 =>
              rw [show spotV b (some j3) = .pointer (some ⟨b, j3 * 2, none⟩) from rfl, show spotV b (some i2) = .pointer (some ⟨b, i2 * 2, none⟩) from rfl]
              by_cases e : i2 = j3
              · subst e
                have hq := eqlp_yes w2 ⟨b, i2 * 2, none⟩
                have HT := Lib.hid (HEQ.out rfl)
                go_wp2
                go_ret
                exact ⟨⟨some i2, rfl, HT.out⟩, hbw⟩
              · have hk2 := HNE.out (fun h => e (Option.some.inj h))
                have hq := eqlp_no w2 b nx (hS.below hbw) i2 j3 e
                have HFIN := Lib.hid (Run.next (X := .pointer (some ⟨b, i2 * 2, none⟩)) (Y := .pointer (some ⟨b, j3 * 2, none⟩)) HK1.out hk2 (by rw [← HNX.out.1]; rfl) (by rw [← HNX.out.2]; rfl))
                go_wp2
                go_roundw
                case rel => exact ⟨HFIN.out.1, hbw⟩
                case measure => exact HFIN.out.2
end Go.Proofs.YthgcoocgeekdnaaGreatDoor
namespace Go.PW
open Go.RowKit Go.PM
/-- two pointers that walk side by side: r rounds are left -/
def Run2 (ob : Nat → Option Nat) (b k D : Nat) (r : Nat) (x y : Value) : Prop := ∃ j, j + r = D ∧ x = spotV b (ob j) ∧ y = spotV b (ob (k + j))
theorem Run2.next {ob : Nat → Option Nat} {b k D j : Nat} {X Y X0 Y0 : Value} (h1 : j + least (fun r => Run2 ob b k D r X0 Y0) = D) (hk : j < D) (hX : X = spotV b (ob (j + 1))) (hY : Y = spotV b (ob (k + (j + 1)))) :
    (∃ r, Run2 ob b k D r X Y) ∧ least (fun r => Run2 ob b k D r X Y) < least (fun r => Run2 ob b k D r X0 Y0) := by
  have h : Run2 ob b k D (D - (j + 1)) X Y := ⟨j + 1, by omega, hX, hY⟩
  refine ⟨⟨_, h⟩, ?_⟩
  have := (least_spec (P := fun r => Run2 ob b k D r X Y) ⟨_, h⟩).2 _ h
  omega
/-- one pointer that walks, and a counter -/
def Run1 (ob : Nat → Option Nat) (b D : Nat) (r : Nat) (x : Value) (n : Value) : Prop := ∃ j : Nat, j + r = D ∧ x = spotV b (ob j) ∧ n = .int .i64 j
end Go.PW
namespace Go.Proofs.YthgcoocgeekdnaaGreatDoor
open Go.RowKit Go.PM Go.PW Go.Lib

set_option maxRecDepth 100000 in
set_option maxHeartbeats 1000000 in
theorem entrance_c (b : Nat) (nx : Nat → Option Nat) (hn : Nice nx) (s : Nat) (hs : s < 19) (w : World) (hS : Spots w b nx) :
    Calls Tryz.prog 106 #[spotV b (some s)] w fun e w' => (∃ m, e = .returned (spotV b m) ∧ Ent nx s m) ∧ Below w.heap.size w w' := by
  have hrho := way_rho hn hs
  have HSec := Lib.hid (fun m (h : Meet nx s m) => hrho.second h)
  obtain ⟨D0, hD0, _⟩ := hrho.stops
  have HEn : Hid (∀ k, orb nx s k = none → Ent nx s none) := fun k hk => ⟨D0, hD0, .inl ⟨rfl, k, hk⟩⟩
  have HEs : Hid (∀ D, Stops nx s D → (∀ i, orb nx s i ≠ none) → Ent nx s (orb nx s D)) := fun D hD h => ⟨D, hD, .inr ⟨rfl, h⟩⟩
  have HL := Lib.hid (fun k i (h : orb nx s k = some i) => orb_lt hn hs k i h)
  have HO := Lib.hid (show ∀ k, orb nx s (k + 1) = (orb nx s k).bind nx from fun _ => rfl)
  have HZ : Hid (orb nx s 0 = some s) := rfl
  have hbl := hS.lt
  have HMT := Lib.hid (meeting_c b nx hn s hs w hS)
  clear hrho hD0 hn
  change Calls Tryz.prog _ #[.pointer (some ⟨b, s * 2, none⟩)] w _
  go_enter Tryz.func106, Tryz.ntmps106
  go_wp2_with fail
  refine HMT.out.mono ?_
  rintro e w1 ⟨⟨m, rfl, hm⟩, hb1⟩
  have hS1 := hS.below hb1
  have hs1 := hb1.size
  rcases HSec.out m hm with ⟨rfl, k, hk⟩ | ⟨k, D, hD, rfl, hne, heq, hall⟩
  · have HF := Lib.hid (HEn.out k hk)
    clear hm hk
    rw [show spotV b none = .pointer none from rfl]
    go_wp2
    refine wp_loop_rounds 1 ?_
    rw [rounds_succ]
    go_wp2
    go_ret
    exact ⟨⟨none, rfl, HF.out⟩, hb1⟩
  · have HF := Lib.hid (HEs.out D hD hall)
    have HNE := Lib.hid hne
    have HEQ := Lib.hid heq
    have HA := Lib.hid hall
    clear hm hD hne heq hall HEn HEs HSec HMT
    generalize orb nx s = ob at *
    go_wp2
    go_loopw [3, 4] (fun x y wr => (∃ r, Run2 ob b k D r x y) ∧ Below w.heap.size w wr) (fun x y _ => least (fun r => Run2 ob b k D r x y))
    case atStart => exact ⟨⟨D, 0, by omega, by rw [HZ.out]; rfl, rfl⟩, hb1⟩
    case round =>
      obtain ⟨hru, hb⟩ := hrel
      obtain ⟨j, hk0, e3, e4⟩ := (least_spec hru).1
      clear hru
      have HK0 := Lib.hid hk0
      have hk : j ≤ D := by omega
      clear hk0
      subst e3 e4
      have hS2 := hS.below hb
      have hbs := hb.size
      cases hx : ob j with
      | none => exact absurd hx (HA.out _)
      | some x =>
        cases hy : ob (k + j) with
        | none => exact absurd hy (HA.out _)
        | some y =>
          rw [show spotV b (some x) = .pointer (some ⟨b, x * 2, none⟩) from rfl, show spotV b (some y) = .pointer (some ⟨b, y * 2, none⟩) from rfl]
          have HK1 : Hid (j + least (fun r => Run2 ob b k D r (.pointer (some ⟨b, x * 2, none⟩)) (.pointer (some ⟨b, y * 2, none⟩))) = D) := by
            have h0 := HK0.out
            rw [hx, hy] at h0
            exact h0
          by_cases hj : j = D
          · have e : x = y := by
              have h := HEQ.out
              rw [← hj, hx, hy] at h
              exact Option.some.inj h
            subst e
            have HR : Hid (ob D = some x) := by show _ = _; rw [← hj]; exact hx
            have hq := neqp_yes wr ⟨b, x * 2, none⟩
            clear hx hy hj HK0 HK1
            go_wp2
            go_ret
            exact ⟨⟨some x, rfl, by rw [← HR.out]; exact HF.out⟩, hb⟩
          · have hjD : j < D := by omega
            have e : ¬ x = y := fun e => HNE.out j hjD (by rw [hx, hy, e])
            have hq := neqp_no wr b nx hS2 x y e
            have hxl := HL.out _ _ hx
            have hyl := HL.out _ _ hy
            have hcx := hS2.src x hxl
            have hcy := hS2.src y hyl
            have h1 : ob (j + 1) = nx x := by rw [HO.out, hx]; rfl
            have h2 : ob (k + (j + 1)) = nx y := by rw [← Nat.add_assoc, HO.out, hy]; rfl
            have HFIN := Lib.hid (Run2.next (X := spotV b (nx x)) (Y := spotV b (nx y)) HK1.out hjD (by rw [h1]) (by rw [h2]))
            clear hx hy h1 h2 HK0 HK1
            generalize nx x = x2 at *
            generalize nx y = y2 at *
            go_wp2
            have cx1 : ∀ x_1 : Ext w.heap.size wr, x_1.val.cell? ⟨b, x * 2 + 1, none⟩ = some (spotV b x2) := fun x_1 => (x_1.property.cell (p := ⟨b, x * 2 + 1, none⟩) hbl).trans hcx
            have cx2 : ∀ x_1 : Ext w.heap.size wr, x_1.val.cell? ⟨b, y * 2 + 1, none⟩ = some (spotV b y2) := fun x_1 => (x_1.property.cell (p := ⟨b, y * 2 + 1, none⟩) hbl).trans hcy
            refine wp_region_ext w.heap.size (by kernel_rfl) (by kernel_rfl) ?_
            repeat (go_big_quiet_step (fail))
            refine wpQuiet_nil ?_
            intro w2 hw'
            obtain ⟨xw, hxw⟩ := hw'
            have hb2 := xw.property
            rw [← hxw] at hb2
            clear hxw xw cx1 cx2 hcx hcy hq
            have hbw := hb.trans hb2
            go_wp2
            go_roundw
            case rel => exact ⟨HFIN.out.1, hbw⟩
            case measure => exact HFIN.out.2
end Go.Proofs.YthgcoocgeekdnaaGreatDoor
namespace Go.Proofs.YthgcoocgeekdnaaGreatDoor
open Go.RowKit Go.PM Go.PW Go.Lib

set_option maxRecDepth 100000 in
set_option maxHeartbeats 1000000 in
theorem wayBack_c (b : Nat) (nx : Nat → Option Nat) (hn : Nice nx) (s : Nat) (hs : s < 19) (w : World) (hS : Spots w b nx) :
    Calls Tryz.prog 107 #[spotV b (some s)] w fun e w' => e = .returned (.string (txt (way nx s))) ∧ Below w.heap.size w w' := by
  have HZ : Hid (way nx s = wayF nx 20 [] (some s)) := rfl
  have HO := Lib.hid (show ∀ k, orb nx s (k + 1) = (orb nx s k).bind nx from fun _ => rfl)
  have HSN := Lib.hid (fun acc i (h : Acc nx s acc) (hi : orb nx s acc.length = some i) hm => h.snoc hn hs hi hm)
  have HST := Lib.hid (fun n acc i (hm : i ∉ acc) => wayF_step (nx := nx) (n := n) hm)
  have HHT := Lib.hid (fun n acc i (hm : i ∈ acc) => wayF_hit (nx := nx) (n := n) hm)
  have HNO := Lib.hid (fun n acc => wayF_none (nx := nx) (n := n) (acc := acc))
  have HL := Lib.hid (fun k i (h : orb nx s k = some i) => orb_lt hn hs k i h)
  have HAN := Lib.hid (Acc.nil (nx := nx) s)
  have HORB0 : Hid (orb nx s 0 = some s) := rfl
  have hbl := hS.lt
  have hcon : ∀ (t : ByteArray) c (W : World), Calls Tryz.prog 42 #[.string t, .string ⟨#[c]⟩] W fun e w' => e = .returned (.bool (decide (c ∈ t.data.toList))) ∧ W = w' := fun t c W =>
    (Tryz.strings_Contains_one t c W).mono fun _ _ ⟨e1, e2⟩ => ⟨by
      rw [e1]; congr 2; simp only [indexByte_mem], e2.symm⟩
  have HC := Lib.hid hcon
  clear hcon hn
  change Calls Tryz.prog _ #[.pointer (some ⟨b, s * 2, none⟩)] w _
  go_enter Tryz.func107, Tryz.ntmps107
  go_wp2
  go_loopw [3, 4] (fun o x wr => ∃ (acc : List Nat) (n : Nat) (c : Option Nat), o = .string (txt acc) ∧ x = spotV b c ∧ acc.length + n = 20 ∧ Hid (Acc nx s acc ∧ orb nx s acc.length = c ∧ way nx s = wayF nx n acc c) ∧ Below w.heap.size w wr) (fun o _ _ => 20 - strLen o)
  case atStart => exact ⟨[], 20, some s, rfl, rfl, rfl, ⟨HAN.out, HORB0.out, HZ.out⟩, Below.refl _ _⟩
  case round =>
    obtain ⟨acc, n, c, rfl, rfl, hn20, hA, hb⟩ := hrel
    have hbs := hb.size
    have hS2 := hS.below hb
    have hal := hA.out.1.len
    have hz := txt_size acc
    cases c with
    | none =>
      have HF : Hid (way nx s = acc) := by show _ = _; rw [hA.out.2.2]; exact HNO.out n acc
      rw [show spotV b none = .pointer none from rfl]
      clear hA
      go_wp2
      go_ret
      exact ⟨by rw [HF.out]; rfl, hb⟩
    | some i =>
      have hil := HL.out _ _ hA.out.2.1
      have hcn := hS2.name i hil
      have hcs := hS2.src i hil
      have hone : sn i = ⟨#[ch i]⟩ := rfl
      rw [hone] at hcn
      have HM := Lib.hid (txt_mem hA.out.1.lt hil)
      have HTS := Lib.hid (txt_snoc acc i)
      have hcc := fun W => HC.out (txt acc) (ch i) W
      have HONE := Lib.hid hone
      clear hone
      rw [show spotV b (some i) = .pointer (some ⟨b, i * 2, none⟩) from rfl]
      have hc1 : (⟨#[ch i]⟩ : ByteArray).size = 1 := rfl
      by_cases hin : i ∈ acc
      · have HF : Hid (way nx s = acc) := by show _ = _; rw [hA.out.2.2]; exact HHT.out n acc i hin
        have hd : decide (ch i ∈ (txt acc).data.toList) = true := by simpa using HM.out.2 hin
        rw [hd] at hcc
        have HCC := Lib.hid hcc
        clear hcc hd hA HM hin
        generalize ch i = c at *
        go_wp2_with (go_at_call 42; refine (HCC.out _).mono ?_; rintro e w' ⟨rfl, rfl⟩)
        go_ret
        exact ⟨by rw [HF.out]; rfl, hb⟩
      · obtain ⟨n', rfl⟩ : ∃ n', n = n' + 1 := ⟨n - 1, by omega⟩
        have hd : decide (ch i ∈ (txt acc).data.toList) = false := by simpa using fun h => hin (HM.out.1 h)
        rw [hd] at hcc
        have HCC := Lib.hid hcc
        have HN : Hid (Acc nx s (acc ++ [i]) ∧ orb nx s (acc ++ [i]).length = nx i ∧ way nx s = wayF nx n' (acc ++ [i]) (nx i)) := by
          refine ⟨HSN.out acc i hA.out.1 hA.out.2.1 hin, ?_, ?_⟩
          · rw [show (acc ++ [i]).length = acc.length + 1 by simp, HO.out, hA.out.2.1]; rfl
          · rw [hA.out.2.2, HST.out _ _ _ hin]
        clear hcc hd hA HM hin
        generalize ch i = c at *
        generalize nx i = ni at *
        go_wp2_with (go_at_call 42; refine (HCC.out _).mono ?_; rintro e w' ⟨rfl, rfl⟩)
        go_roundw
        case rel => exact ⟨acc ++ [i], n', ni, by rw [HTS.out, HONE.out], rfl, by simp; omega, HN, hb⟩
        case measure => simp [strLen, ByteArray.size_append, hc1, hz]; omega
end Go.Proofs.YthgcoocgeekdnaaGreatDoor
namespace Go.PW
open Go.RowKit Go.PM
/-- the cells of the spots: names and sources -/
def spA (n : Nat → ByteArray) (s : Nat → Value) : Array Value := Array.ofFn (n := 38) fun j => if j.val % 2 = 0 then .string (n (j.val / 2)) else s (j.val / 2)
theorem spA_size (n : Nat → ByteArray) (s : Nat → Value) : (spA n s).size = 38 := by simp [spA]
theorem spA_name (n : Nat → ByteArray) (s : Nat → Value) (i : Nat) (hi : i < 19) : (spA n s)[i * 2]? = some (.string (n i)) := by
  have h : i * 2 < 38 := by omega
  simp [spA, h]
theorem spA_src (n : Nat → ByteArray) (s : Nat → Value) (i : Nat) (hi : i < 19) : (spA n s)[i * 2 + 1]? = some (s i) := by
  have h : i * 2 + 1 < 38 := by omega
  have h2 : ¬ (i * 2 + 1) % 2 = 0 := by omega
  have h3 : (i * 2 + 1) / 2 = i := by omega
  simp [spA, h, h3]
theorem spA_setName (n : Nat → ByteArray) (s : Nat → Value) (i : Nat) (_hi : i < 19) (x : ByteArray) : (spA n s).setIfInBounds (i * 2) (.string x) = spA (upd n i x) s := by
  apply Array.ext
  · simp [spA]
  · intro j h1 h2
    rw [Array.getElem_setIfInBounds (by simpa [spA] using h2)]
    simp only [spA, Array.getElem_ofFn, upd]
    by_cases e : i * 2 = j
    · subst e
      simp
    · by_cases e2 : j % 2 = 0
      · have : ¬ j / 2 = i := by omega
        simp [e, e2, this]
      · simp [e, e2]
theorem spA_setSrc (n : Nat → ByteArray) (s : Nat → Value) (i : Nat) (_hi : i < 19) (x : Value) : (spA n s).setIfInBounds (i * 2 + 1) x = spA n (fun q => if q = i then x else s q) := by
  apply Array.ext
  · simp [spA]
  · intro j h1 h2
    rw [Array.getElem_setIfInBounds (by simpa [spA] using h2)]
    simp only [spA, Array.getElem_ofFn]
    by_cases e : i * 2 + 1 = j
    · subst e
      have h2 : ¬ (i * 2 + 1) % 2 = 0 := by omega
      have h3 : (i * 2 + 1) / 2 = i := by omega
      simp [h3]
    · by_cases e2 : j % 2 = 0
      · simp [e, e2]
      · have : ¬ j / 2 = i := by omega
        simp [e, e2, this]
abbrev zS : Array Value := #[.string ⟨#[]⟩, .pointer none, .string ⟨#[]⟩, .pointer none, .string ⟨#[]⟩, .pointer none, .string ⟨#[]⟩, .pointer none, .string ⟨#[]⟩, .pointer none, .string ⟨#[]⟩, .pointer none, .string ⟨#[]⟩, .pointer none, .string ⟨#[]⟩, .pointer none, .string ⟨#[]⟩, .pointer none, .string ⟨#[]⟩, .pointer none, .string ⟨#[]⟩, .pointer none, .string ⟨#[]⟩, .pointer none, .string ⟨#[]⟩, .pointer none, .string ⟨#[]⟩, .pointer none, .string ⟨#[]⟩, .pointer none, .string ⟨#[]⟩, .pointer none, .string ⟨#[]⟩, .pointer none, .string ⟨#[]⟩, .pointer none, .string ⟨#[]⟩, .pointer none]
theorem zS_eq : zS = spA (fun _ => emp) (fun _ => .pointer none) := rfl
/-- the first k names are laid -/
def nmK (k : Nat) : Nat → ByteArray := fun i => if i < k then sn i else emp
theorem nmK_zero : nmK 0 = fun _ => emp := by funext i; simp [nmK]
theorem nmK_succ (k : Nat) : upd (nmK k) k (sn k) = nmK (k + 1) := by
  funext i
  unfold upd nmK
  by_cases h : i = k
  · subst h; simp
  · by_cases h2 : i < k
    · simp [h, h2, Nat.lt_succ_of_lt h2]
    · have : ¬ i < k + 1 := by omega
      simp [h, h2, this]
/-- the first k sources are laid -/
def srcK (f : Nat → ByteArray) (b k : Nat) : Nat → Value := fun i => if i < k then spotV b (nxT f i) else .pointer none
theorem srcK_zero (f : Nat → ByteArray) (b : Nat) : srcK f b 0 = fun _ => .pointer none := by funext i; simp [srcK]
theorem srcK_succ (f : Nat → ByteArray) (b k : Nat) : (fun q => if q = k then spotV b (nxT f k) else srcK f b k q) = srcK f b (k + 1) := by
  funext i
  unfold srcK
  by_cases h : i = k
  · subst h; simp
  · by_cases h2 : i < k
    · simp [h, h2, Nat.lt_succ_of_lt h2]
    · have : ¬ i < k + 1 := by omega
      simp [h, h2, this]
theorem srcK_same (f : Nat → ByteArray) (b k : Nat) (h : nxT f k = none) : srcK f b k = srcK f b (k + 1) := by
  rw [← srcK_succ, h]
  funext i
  by_cases h : i = k
  · subst h; simp [srcK, spotV]
  · simp [h]
end Go.PW
namespace Go.Proofs.YthgcoocgeekdnaaGreatDoor
open Go.RowKit Go.PM Go.PW Go.Lib
attribute [local go_sem] Oper.semAt_some

set_option maxRecDepth 100000 in
set_option maxHeartbeats 800000 in
theorem spotsOf_c (f : Nat → ByteArray) (hf : SV f) (w : World) :
    Calls Tryz.prog 95 #[tabX f] w fun e w' => (∃ b, e = .returned (.pointer (some ⟨b, 0, none⟩)) ∧ w.heap.size ≤ b ∧ Spots w' b (nxT f)) ∧ Below w.heap.size w w' := by
  have HEX : Hid (∀ q, q < 19 → (ByteArray.mk #[97, 98, 99, 100, 101, 102, 65, 66, 67, 48, 49, 50, 51, 52, 53, 54, 55, 56, 57]).extract q (q+1) = sn q) := by
    show ∀ q, _
    intro q hq
    rw [extract_one _ _ (by show q < 19; exact hq)]; rfl
  refine (callsIn_wide (n := 5)).1 ?_
  refine callsIn_of_wp_marks Tryz.func95 rfl trivial ?_ rfl
  simp only [Tryz.ntmps95, List.size_toArray, List.length_cons, List.length_nil, Nat.reduceAdd, Nat.reduceSub, Array.replicate_succ, Array.replicate_zero, List.push_toArray, List.append_toArray, List.nil_append, List.cons_append]
  gi_wp2
  gi_loopw [4, 10] (fun _ i wr => ∃ k : Nat, k ≤ 19 ∧ i = .int .i64 k ∧ At wr w.heap.size 118 (tabA f) ∧ At wr (w.heap.size + 1) 130 (spA (nmK k) (fun _ => .pointer none)) ∧ At wr (w.heap.size + 2) 122 #[.pointer (some ⟨w.heap.size + 1, 0, none⟩)] ∧ Below w.heap.size w wr) (fun _ i _ => 19 - (RowKit.intOf i).toNat)
  case atStart =>
    refine ⟨0, by omega, rfl, ?_, ?_, ?_, by (repeat' (first | (with_reducible exact Below.refl _ _) | (with_reducible assumption) | (with_reducible refine Below.alloc ?_ ?_ _) | (with_reducible refine Below.drew ?_) | (with_reducible refine Below.setCell ?_ ?_ _) | (with_reducible exact Nat.le_refl _) | omega | ((repeat (first | rewrite [World.size_alloc] | rewrite [World.size_setCell] | rewrite [World.size_drew])); omega) | (simp; omega) | (simp; done)))⟩
    · exact ((At.new _ _ _).alloc _).alloc _
    · rw [nmK_zero, ← zS_eq]
      have := At.new (w.alloc (.cells (tabA f) 118)) 130 zS
      rw [World.size_alloc] at this
      exact this.alloc _
    · have := At.new ((w.alloc (.cells (tabA f) 118)).alloc (.cells zS 130)) 122 #[.pointer (some ⟨w.heap.size + 1, 0, none⟩)]
      rw [World.size_alloc, World.size_alloc] at this
      exact this
  case round =>
    obtain ⟨k, hk, rfl, h1, h2, h3, hb⟩ := hrel
    have hbs := hb.size
    by_cases hlt : k < 19
    · have hc3 : wr.drew.cell? ⟨w.heap.size + 2, 0, none⟩ = some (.pointer (some ⟨w.heap.size + 1, 0, none⟩)) := h3.cell 0
      have hl2 := h2.lt
      have hc2 : wr.drew.cell? ⟨w.heap.size + 1, k * 2, none⟩ = some (.string (nmK k k)) := (h2.cell (k * 2)).trans (spA_name _ _ k hlt)
      have hf2 : wr.drew.frozen? ⟨w.heap.size + 1, k * 2, none⟩ = false := h2.frozen (k * 2)
      have hex := HEX.out k hlt
      have HSET := Lib.hid (spA_setName (nmK k) (fun _ => .pointer none) k hlt (sn k))
      have i0 : (0 : Int) ≤ (k : Int) := by omega
      have i1 : (k : Int) < 19 := by omega
      gi_wp2
      refine regionIn_tail (F := Fence.wide) (C := fun w' => w' = wr.drew) 9 rfl (by kernel_rfl) (by kernel_rfl) rfl ?_
      simp only [List.take_succ_cons, List.take_zero, List.drop_succ_cons, List.drop_zero]
      repeat (gi_big_quiet_step (fail))
      refine wpQuietIn_nil ?_
      intro w' hw'
      subst hw'
      have d1 := h1.far (p := ⟨w.heap.size + 1, k * 2, none⟩) (by simp) (.string (sn k))
      have d2 := h2.set (k * 2) (.string (sn k))
      have d3 := h3.far (p := ⟨w.heap.size + 1, k * 2, none⟩) (by simp) (.string (sn k))
      rw [HSET.out, nmK_succ] at d2
      clear h1 h2 h3
      gi_wp2
      go_roundw
      case rel => exact ⟨k + 1, by omega, by go_num, d1, d2, d3, by (repeat' (first | (with_reducible exact Below.refl _ _) | (with_reducible assumption) | (with_reducible refine Below.alloc ?_ ?_ _) | (with_reducible refine Below.drew ?_) | (with_reducible refine Below.setCell ?_ ?_ _) | (with_reducible exact Nat.le_refl _) | omega | ((repeat (first | rewrite [World.size_alloc] | rewrite [World.size_setCell] | rewrite [World.size_drew])); omega) | (simp; omega) | (simp; done)))⟩
      case measure => simp [RowKit.intOf]; omega
    · have hk19 : k = 19 := by omega
      have HNE := Lib.hid (fun p (hp : p < 9) => sx_lt hf hp)
      rw [hk19] at h2
      have HK := Lib.hid hk19
      clear hk19
      have hs1 := h1.lt
      have hs2 := h2.lt
      have hs3 := h3.lt
      gi_wp2
      refine range_law (F := Fence.wide) (gf := 103) (lf := #[.int .i64 9]) (lb := #[]) rfl (by decide) rfl trivial (fun args w => rfl) (encs := fun p : Nat => #[.int .i64 p]) (xs := List.range 9)
        (below_iter _ _ trivial rfl (by decide)) (fun _ => rfl)
        (fun pre W => At W w.heap.size 118 (tabA f) ∧ At W (w.heap.size + 1) 130 (spA (nmK 19) (srcK f (w.heap.size + 1) pre.length)) ∧ At W (w.heap.size + 2) 122 #[.pointer (some ⟨w.heap.size + 1, 0, none⟩)] ∧ Below w.heap.size w W)
        (fun _ _ _ => False) ?own (fun _ => ownFrom_pure _ _) ?start ?a1 ?assign ?body ?done ?stop
      case own =>
        rintro s A A' row ⟨q1, q2, q3, q4⟩ hg hr
        have hr' : ∀ r, row = some r → w.heap.size + 3 ≤ r := fun r e => by have := (hr r e).1; omega
        refine ⟨(hg.block _ q1.lt (fun e => ?_)).trans q1, (hg.block _ q2.lt (fun e => ?_)).trans q2, (hg.block _ q3.lt (fun e => ?_)).trans q3, q4.trans (below_grown hg q4.size (fun g e => ?_))⟩
        · have := hr' _ e.symm; omega
        · have := hr' _ e.symm; omega
        · have := hr' _ e.symm; omega
        · have := hr' _ e; omega
      case start => exact ⟨h1, by rw [List.length_nil, srcK_zero]; exact h2, h3, hb⟩
      case assign =>
        intro l p W Kc hK
        gi_wp2
        exact hK
      case body =>
        rintro l pre p W ⟨q1, q2, q3, q4⟩ hp hsz
        obtain ⟨hl, hp9⟩ := pre_len pre p hp
        rw [hl] at q2
        have HL : Hid ((pre ++ [p]).length = p + 1) := by show _ = _; simp [hl]
        have HSRC := Lib.hid (fun W => source_c f p hp9 W)
        have hsx := (HNE.out p hp9).1
        have HSN : Hid (srcT f p = sn (sx f p)) := (HNE.out p hp9).2.symm
        have HNM : Hid (nm p = sn p) := (sn_nm p hp9).symm
        have HYES := Lib.hid (nxT_some (f := f) hp9)
        have HSTAY := Lib.hid (nxT_stay (f := f) hp9)
        have HS1 := Lib.hid (srcK_succ f (w.heap.size + 1) p)
        have HS2 := Lib.hid (srcK_same f (w.heap.size + 1) p)
        have HSET := Lib.hid (spA_setSrc (nmK 19) (srcK f (w.heap.size + 1) p) p (by omega))
        have hpos := fun W => positionIn_yes ⟨#[97, 98, 99, 100, 101, 102, 65, 66, 67, 48, 49, 50, 51, 52, 53, 54, 55, 56, 57]⟩ (ch (sx f p)) (sx f p) (ch_all _ hsx).1 W
        have HPOS := Lib.hid hpos
        have c0 : W.cell? ⟨w.heap.size, 0, none⟩ = some (.string (f 0)) := q1.cell 0
        have c1 : W.cell? ⟨w.heap.size, 1, none⟩ = some (.string (f 1)) := q1.cell 1
        have c2 : W.cell? ⟨w.heap.size, 2, none⟩ = some (.string (f 2)) := q1.cell 2
        have c3 : W.cell? ⟨w.heap.size, 3, none⟩ = some (.string (f 3)) := q1.cell 3
        have c4 : W.cell? ⟨w.heap.size, 4, none⟩ = some (.string (f 4)) := q1.cell 4
        have c5 : W.cell? ⟨w.heap.size, 5, none⟩ = some (.string (f 5)) := q1.cell 5
        have c6 : W.cell? ⟨w.heap.size, 6, none⟩ = some (.string (f 6)) := q1.cell 6
        have c7 : W.cell? ⟨w.heap.size, 7, none⟩ = some (.string (f 7)) := q1.cell 7
        have c8 : W.cell? ⟨w.heap.size, 8, none⟩ = some (.string (f 8)) := q1.cell 8
        clear hpos hl hf
        gi_wp2
        refine ⟨trivial, ?_⟩
        refine CallsIn.inRound l (callsIn_wide.2 ((HSRC.out W).mono ?_))
        rintro e W2 ⟨rfl, hb2⟩
        rw [HSN.out]
        have hz4 := q4.size
        have k1 := q1.keep hb2
        have k2 := q2.keep hb2
        have k3 := q3.keep hb2
        have k4 : Below w.heap.size w W2 := q4.trans (hb2.mono hz4)
        have kf := keepsFrom_below (B := wr.heap.size) hb2
        have kz := hb2.size
        clear c0 c1 c2 c3 c4 c5 c6 c7 c8 q1 q2 q3 q4 hb2
        have hone : sn (sx f p) = ⟨#[ch (sx f p)]⟩ := rfl
        by_cases hst : sx f p = p
        · have hnx := HSTAY.out hst
          have e1 : srcK f (w.heap.size + 1) p = srcK f (w.heap.size + 1) (p + 1) := HS2.out hnx
          rw [hst]
          rw [e1] at k2
          have HNM2 := Lib.hid (fun W => name_c p hp9 W)
          have hb1 : ((sn p).toList == (sn p).toList) = true := by simp
          gi_wp2
          refine ⟨trivial, CallsIn.inRound l (callsIn_wide.2 ((HNM2.out _).mono ?_))⟩
          rintro e wq ⟨rfl, rfl⟩
          rw [HNM.out]
          gi_wp2
          exact ⟨kf, KeepsIn.zero kz, k1, by rw [HL.out]; exact k2, k3, k4⟩
        · have hnx := HYES.out hst
          have e1 := HSET.out (spotV (w.heap.size + 1) (nxT f p))
          rw [HS1.out, hnx] at e1
          have E1 := Lib.hid e1
          have HNM2 := Lib.hid (fun W => name_c p hp9 W)
          have hb1 : ((sn (sx f p)).toList == (sn p).toList) = false := by
            rw [beq_str, decide_eq_false_iff_not]
            exact fun e => hst (sn_inj hsx (by omega) e)
          clear e1 hone hnx
          have HOLD := Lib.hid ((k2.cell (p * 2 + 1)).trans (spA_src (nmK 19) (srcK f (w.heap.size + 1) p) p (by omega)))
          generalize sx f p = j at *
          gi_wp2
          refine ⟨trivial, CallsIn.inRound l (callsIn_wide.2 ((HNM2.out _).mono ?_))⟩
          rintro e wq ⟨rfl, rfl⟩
          rw [HNM.out]
          gi_wp2
          refine ⟨trivial, CallsIn.inRound l (callsIn_wide.2 ((HPOS.out _).mono ?_))⟩
          rintro e wq ⟨rfl, rfl⟩
          have c3 : W2.drew.cell? ⟨w.heap.size + 2, 0, none⟩ = some (.pointer (some ⟨w.heap.size + 1, 0, none⟩)) := k3.cell 0
          have cq : W2.drew.cell? ⟨w.heap.size + 1, p * 2 + 1, none⟩ = some (srcK f (w.heap.size + 1) p p) := HOLD.out
          have fq : W2.drew.frozen? ⟨w.heap.size + 1, p * 2 + 1, none⟩ = false := k2.frozen _
          have l2 := k2.lt
          have i0 : (0 : Int) ≤ (p : Int) := by omega
          have i1 : (p : Int) < 19 := by omega
          have i2 : (0 : Int) ≤ (j : Int) := by omega
          have i3 : (j : Int) < 19 := by omega
          gi_wp2
          refine region_tail_inRound (F := Fence.wide) (C := fun w' => w' = W2.drew) 9 rfl (by kernel_rfl) (by kernel_rfl) (by kernel_rfl) rfl ?_
          simp only [List.take_succ_cons, List.take_zero, List.drop_succ_cons, List.drop_zero]
          repeat (gi_big_quiet_step (fail))
          refine wpQuietIn_nil ?_
          intro w' hw'
          subst hw'
          clear c3 hb1
          gi_wp2
          have d1 := k1.far (p := ⟨w.heap.size + 1, p * 2 + 1, none⟩) (by simp) (.pointer (some ⟨w.heap.size + 1, j * 2, none⟩))
          have d2 := k2.set (p * 2 + 1) (.pointer (some ⟨w.heap.size + 1, j * 2, none⟩))
          have d3 := k3.far (p := ⟨w.heap.size + 1, p * 2 + 1, none⟩) (by simp) (.pointer (some ⟨w.heap.size + 1, j * 2, none⟩))
          have d4 := k4.setCell (p := ⟨w.heap.size + 1, p * 2 + 1, none⟩) (by simp) (.pointer (some ⟨w.heap.size + 1, j * 2, none⟩))
          have e2 := E1.out
          rw [show spotV (w.heap.size + 1) (some j) = .pointer (some ⟨w.heap.size + 1, j * 2, none⟩) from rfl] at e2
          rw [e2] at d2
          refine ⟨(kf.trans ((KeepsOthers.setCell _ _ _).from _)).trans ((KeepsOthers.drew _).from _), KeepsIn.zero (by simp [World.size_setCell, World.size_drew]; exact kz), d1, by rw [HL.out]; exact d2, d3, d4.drew⟩
      case done =>
        intro D W hD hI hd
        obtain ⟨q1, q2, q3, q4⟩ := hI
        have hDD : w.heap.size + 3 ≤ D := by omega
        have l2 := q2.lt
        have q2' : At W (w.heap.size + 1) 130 (spA (nmK 19) (srcK f (w.heap.size + 1) 9)) := q2
        have c3 : W.cell? ⟨w.heap.size + 2, 0, none⟩ = some (.pointer (some ⟨w.heap.size + 1, 0, none⟩)) := q3.cell 0
        have HSP : Hid (Spots (W.putObj D (.deferred none)) (w.heap.size + 1) (nxT f)) := by
          have hA : At (W.putObj D (.deferred none)) (w.heap.size + 1) 130 (spA (nmK 19) (srcK f (w.heap.size + 1) 9)) := (World.putObj_heap_other (by omega)).trans q2'
          refine ⟨⟨_, _, hA⟩, fun i hi => ?_, fun i hi => ?_⟩
          · rw [hA.cell, spA_name _ _ i hi]; simp [nmK, hi]
          · rw [hA.cell, spA_src _ _ i hi]
            by_cases h9 : i < 9
            · simp [srcK, h9]
            · simp [srcK, h9, nxT_digit h9, spotV]
        clear q2
        gi_wp2
        refine ⟨by simp, .inl ⟨D, _, rfl, run_takeDeferred hd, ?_⟩⟩
        refine ⟨_, results_tmp rfl _ _ _, ⟨_, rfl, by omega, HSP.out⟩, ?_⟩
        exact q4.trans ⟨rfl, rfl, rfl, by simp [World.putObj], fun k hk => World.putObj_heap_other (by omega)⟩
      case stop =>
        intro _ _ _ _ _ _ hff
        exact hff.elim
end Go.Proofs.YthgcoocgeekdnaaGreatDoor
namespace Go.PM
open Go.RowKit
variable {F : Fence} {n : Nat} {P : Program}
/-- the same contract, of a function that reads what the caller keeps and writes to blocks of its own -/
def IterW {α : Type} (Pr : World → Prop) (κ : Nat) (F : Fence) (n : Nat) (P : Program) (gf : Nat) (mk : Value → Array Value) (encs : α → Array Value) (xs : List α) : Prop :=
  ∀ (l : Nat) (J Jx : List α → World → Prop) (W : World),
    OwnFrom W.heap.size J → OwnFrom W.heap.size Jx → (∀ pre A, J pre A → Pr A) → (∀ pre A A' r, J pre A → W.heap.size ≤ r → r < W.heap.size + κ → A.grownBy A' (some r) → J pre A') →
    (∀ pre x A, J pre A → W.heap.size + κ ≤ A.heap.size → pre ++ [x] <+: xs → YieldAt F (n - 1) P l (encs x) A fun e A' =>
      (e = .returned (.bool true) ∧ J (pre ++ [x]) A' ∧ KeepsIn W.heap.size κ A A' ∧ KeepsFrom W.heap.size A A') ∨ (e = .returned (.bool false) ∧ Jx (pre ++ [x]) A' ∧ A.heap.size ≤ A'.heap.size ∧ KeepsFrom W.heap.size A A')) →
    J [] W →
    CallsIn F n P gf (mk (.func (.yield l) #[] #[])) W fun e W' => (∃ v, e = .returned v) ∧ (J xs W' ∨ ∃ pre, pre <+: xs ∧ Jx pre W')
theorem range_law4 {α : Type} {Pr : World → Prop} {g : Operand} {ps : Array Tmp} {assign body : Code} {Q : Exit → Act → World → Prop} {a : Act} {w : World} (hro : F.round = none) (h1 : 1 ≤ n)
    {gf : Nat} {lf lb : Array Value} (hg : a.eval g = .func (.func gf) lf lb) (hFg : F.fn gf) (eg : ∀ args w, (callFunc gf args).run P w = .ok (.enter gf args) w)
    {encs : α → Array Value} {xs : List α} {κ : Nat} (hit : IterW Pr κ F (n - 1) P gf (fun y => lf ++ #[y] ++ lb) encs xs) (hps : ∀ x, (encs x).size = ps.size)
    (I : List α → World → Prop) (Ix : Code → List α → World → Prop) (hPr : ∀ pre A, I pre A → Pr A) (hIW : ∀ pre A A' r, I pre A → w.heap.size + 2 ≤ r → r < w.heap.size + 2 + κ → A.grownBy A' (some r) → I pre A') (hI : OwnFrom w.heap.size I) (hIx : ∀ c, OwnFrom w.heap.size (Ix c)) (h0 : I [] w) (Ax : α → Act → World → Prop) (hAx : ∀ x a', OwnFrom w.heap.size (fun (_ : Unit) W => Ax x a' W))
    (hassign : ∀ (l : Nat) (pre : List α) (x : α) (W : World) (K : Act → World → Prop), I pre W → pre ++ [x] <+: xs → w.heap.size + 2 + κ ≤ W.heap.size → (∀ a' W', KeepsNew w.heap.size W W' → I pre W' → Ax x a' W' → K a' W') →
      assign.wpIn (F.inRound l) (n - 1 - 1) P (Exit.then K (fun _ _ _ => False)) { tmps := (ps.zip (encs x)).foldl (fun t (p, v) => t.setIfInBounds p v) a.tmps, defers := [] } W)
    (hbody : ∀ (l : Nat) (pre : List α) (x : α) (a' : Act) (W : World), I pre W → Ax x a' W → pre ++ [x] <+: xs → w.heap.size + 2 + κ ≤ W.heap.size → body.wpIn (F.inRound l) (n - 1 - 1) P (ownPostG w.heap.size (KeepsIn (w.heap.size + 2) κ) I Ix (pre ++ [x]) W) a' W)
    (hdone : ∀ (D : Nat) (W : World), w.heap.size ≤ D → I xs W → W.heap[D]? = some (.deferred (some [])) → Q .normal { a with defers := { target := .collected D, args := #[] } :: a.defers } W)
    (hstop : ∀ (D : Nat) (c : Code) (pre : List α) (W : World), w.heap.size ≤ D → pre <+: xs → Ix c pre W → W.heap[D]? = some (.deferred (some [])) → c.wpIn F n P Q { a with defers := { target := .collected D, args := #[] } :: a.defers } W) :
    (Code.rangeFunc g ps assign body).wpIn F n P Q a w := by
  refine wpIn_rangeFunc fun fn hfn => ?_
  rw [hro]
  have key : ∃ rc : LoopState → Option Code → Loop, rc = fun s j => { state := s, pending := j, fn, tmps := a.tmps, params := ps, assign, body, defers := w.heap.size } := ⟨_, rfl⟩
  obtain ⟨rc, hrc⟩ := key
  let V := (w.alloc (.deferred (some []))).alloc (.loop (rc .ready none))
  -- the two blocks of book-keeping, and that the caller's own facts outlast what is done to them
  let Bk : LoopState → Option Code → World → Prop := fun s j A => A.heap[w.heap.size + 1]? = some (.loop (rc s j)) ∧ A.heap[w.heap.size]? = some (.deferred (some []))
  have bkput : ∀ {s j s' j' A}, Bk s j A → Bk s' j' (A.putObj (w.heap.size + 1) (.loop (rc s' j'))) := fun h =>
    ⟨World.putObj_heap_same (Array.getElem?_eq_some_iff.1 h.1).1, (World.putObj_heap_other (by omega)).trans h.2⟩
  have hVs : V.heap.size = w.heap.size + 2 := by simp [V, World.size_alloc]
  have bknew : ∀ {s j A A' row}, Bk s j A → A.grownBy A' row → (∀ r, row = some r → V.heap.size ≤ r ∧ ∃ o : Obj, A.heap[r]? = some o ∧ o.isCells = false) → Bk s j A' := fun h hg' hr =>
    ⟨(hg'.block _ (Array.getElem?_eq_some_iff.1 h.1).1 (fun e => by have := (hr _ e.symm).1; omega)).trans h.1, (hg'.block _ (Array.getElem?_eq_some_iff.1 h.2).1 (fun e => by have := (hr _ e.symm).1; omega)).trans h.2⟩
  have hV : Bk .ready none V := by
    refine ⟨?_, ?_⟩
    · have := World.alloc_heap_new (w.alloc (.deferred (some []))) (.loop (rc .ready none)); rwa [World.size_alloc] at this
    · exact (Below.heap_alloc _ _ _ (by simp)).trans (World.alloc_heap_new w _)
  have hIV : I [] V := hI.alloc _ (hI.alloc _ h0)
  refine ⟨w.heap.size + 1, [{ target := .collected w.heap.size, args := #[] }], V, { target := .fn (.func gf) lb, args := lf ++ #[.func (.yield (w.heap.size + 1)) #[] #[]] }, V, gf,
    lf ++ #[.func (.yield (w.heap.size + 1)) #[] #[]] ++ lb, V, ?_, ?_, ?_, ?_, fun _ => h1, ?_⟩
  · have := run_enterLoop_outer (P := P) (w := w) fn a.tmps ps assign body
    rw [this]; simp only [V, hrc]
  · simp only [resolve, hg]
    simp [go_sem]
  · intro f' hf'
    simp [Target.leads] at hf'
    subst hf'; exact hFg
  · simp [invoke, go_sem, eg]
  refine (hit (w.heap.size + 1) (fun pre A => I pre A ∧ Bk .ready none A) (fun pre A => ∃ c, Ix c pre A ∧ Bk .done (some c) A) V
    (fun pre A A' row h hg' hr => ⟨hI pre A A' row h.1 hg' (fun r e => ⟨by have := (hr r e).1; omega, (hr r e).2⟩), bknew h.2 hg' hr⟩)
    (fun pre A A' row ⟨c, h, hb⟩ hg' hr => ⟨c, hIx c pre A A' row h hg' (fun r e => ⟨by have := (hr r e).1; omega, (hr r e).2⟩), bknew hb hg' hr⟩) (fun pre A h => hPr pre A h.1) (fun pre A A' r h h1 h2 hg' => ⟨hIW pre A A' r h.1 (by omega) (by omega) hg', (hg'.block _ (Array.getElem?_eq_some_iff.1 h.2.1).1 (fun e => by cases e; omega)).trans h.2.1, (hg'.block _ (Array.getElem?_eq_some_iff.1 h.2.2).1 (fun e => by cases e; omega)).trans h.2.2⟩) ?_ ⟨hIV, hV⟩).mono ?_
  · rintro pre x A ⟨hi, hb⟩ hsz hpx
    have hy := run_yield (P := P) (args := encs x) hb.1 (by rw [hrc]; exact hps x)
    rw [hrc] at hy
    refine ⟨fn, _, assign, body, hy, roundIn_of_wpIn hfn (hassign _ pre x A _ hi hpx (by omega) ?_)⟩
    intro a' Wa hkn hia hax
    have hlt := (Array.getElem?_eq_some_iff.1 hb.1).1
    replace hb : Bk .ready none Wa := ⟨(hkn.same _ (by omega) hlt).trans hb.1, (hkn.same _ (Nat.le_refl _) (by omega)).trans hb.2⟩
    clear hy hi
    refine ⟨_, run_beginRound hb.1 (by rw [hrc]), ?_⟩
    have hknV : KeepsIn V.heap.size κ A Wa := hkn.toIn (by omega) hsz
    have hkfV : KeepsFrom V.heap.size A Wa := (hkn.mono (by omega)).from
    have hszA : A.heap.size ≤ Wa.heap.size := hkn.size
    replace hsz := Nat.le_trans hsz hszA
    clear hkn
    revert hknV hkfV hszA
    generalize A = A0
    intro hknV hkfV hszA
    obtain ⟨A, rfl⟩ : ∃ A, A = Wa := ⟨_, rfl⟩
    have hb2 : Bk .busy none (A.putObj (w.heap.size + 1) (.loop (rc .busy none))) := bkput hb
    have e2 : ({ rc .ready none with state := .busy } : Loop) = rc .busy none := by rw [hrc]
    rw [e2]
    refine wpIn_mono (hbody _ pre x a' _ (hI.putObj _ hia (by omega) hb.1 rfl) ((hAx x a').putObj (s := ()) _ hax (by omega) hb.1 rfl) hpx (by simp [World.putObj]; omega)) ?_
    have fin : ∀ (j : Option Code) (C : World), KeepsFrom w.heap.size (A.putObj (w.heap.size + 1) (.loop (rc .busy none))) C →
        (Instr.endRound (w.heap.size + 1) j).run P C = .ok (.bool j.isNone) (C.putObj (w.heap.size + 1) (.loop (rc (if j.isNone then .ready else .done) j))) ∧ Bk .busy none C := fun j C hk => by
      have h1 := hk.same _ _ (by omega) hb2.1 rfl
      have h2 := hk.same _ _ (Nat.le_refl _) hb2.2 rfl
      have h3 := run_endRound (P := P) j h1
      refine ⟨?_, h1, h2⟩
      rw [h3]; rw [hrc]
    have kfin : ∀ (o : Obj) (C : World), KeepsFrom w.heap.size (A.putObj (w.heap.size + 1) (.loop (rc .busy none))) C → KeepsFrom V.heap.size A0 (C.putObj (w.heap.size + 1) o) := fun o C hk => by
      refine hkfV.trans ?_
      refine ⟨by have := hk.size; simp [World.putObj] at this ⊢; omega, fun k x hk1 hk2 hk3 => ?_⟩
      rw [World.putObj_heap_other (by omega)]
      exact hk.same k x (by omega) (by rw [World.putObj_heap_other (by omega)]; exact hk2) hk3
    rintro e a3 C hp
    cases e with
    | normal =>
      obtain ⟨hk, hkn, hi3⟩ := hp
      obtain ⟨hr, hb3⟩ := fin none C hk
      refine ⟨_, _, hr, .inl ⟨rfl, ⟨hI.putObj _ hi3 (by omega) hb3.1 rfl, bkput hb3⟩, ?_, kfin _ C hk⟩⟩
      refine ⟨by have := hkn.size; simp [World.putObj] at this ⊢; omega, fun k hk1 hk2 => ?_⟩
      rw [World.putObj_heap_other (by omega), hkn.same k (by omega) (by omega), World.putObj_heap_other (by omega)]
      exact hknV.same k hk1 hk2
    | ret =>
      obtain ⟨hk, hi3⟩ := hp
      obtain ⟨hr, hb3⟩ := fin (some .ret) C hk
      exact ⟨_, _, hr, .inr ⟨rfl, ⟨.ret, (hIx _).putObj _ hi3 (by omega) hb3.1 rfl, bkput hb3⟩, by have := hk.size; simp [World.putObj] at this ⊢; omega, kfin _ C hk⟩⟩
    | exit id =>
      obtain ⟨hk, hi3⟩ := hp
      obtain ⟨hr, hb3⟩ := fin (some (.exit id)) C hk
      exact ⟨_, _, hr, .inr ⟨rfl, ⟨.exit id, (hIx _).putObj _ hi3 (by omega) hb3.1 rfl, bkput hb3⟩, by have := hk.size; simp [World.putObj] at this ⊢; omega, kfin _ C hk⟩⟩
    | goto t =>
      obtain ⟨hk, hi3⟩ := hp
      obtain ⟨hr, hb3⟩ := fin (some (.goto t)) C hk
      exact ⟨_, _, hr, .inr ⟨rfl, ⟨.goto t, (hIx _).putObj _ hi3 (by omega) hb3.1 rfl, bkput hb3⟩, by have := hk.size; simp [World.putObj] at this ⊢; omega, kfin _ C hk⟩⟩
    | panic ch => exact hp.elim
    | outgrown => exact hp.elim
  · rintro e C ⟨⟨v, rfl⟩, (⟨hi, hb⟩ | ⟨pre, hp, c, hi, hb⟩)⟩
    · have h3 := run_endLoop (P := P) hb.1 (by rw [hrc]; simp)
      refine ⟨none, _, by rw [h3, hrc], hdone _ _ (Nat.le_refl _) (hI.putObj _ hi (by omega) hb.1 rfl) ((World.putObj_heap_other (by omega)).trans hb.2)⟩
    · have h3 := run_endLoop (P := P) hb.1 (by rw [hrc]; simp)
      refine ⟨some c, _, by rw [h3, hrc], hstop _ c pre _ (Nat.le_refl _) hp ((hIx c).putObj _ hi (by omega) hb.1 rfl) ((World.putObj_heap_other (by omega)).trans hb.2)⟩
/-- The same where the assignment lays nothing. -/
theorem range_law5 {α : Type} {Pr : World → Prop} {g : Operand} {ps : Array Tmp} {assign body : Code} {Q : Exit → Act → World → Prop} {a : Act} {w : World} (hro : F.round = none) (h1 : 1 ≤ n)
    {gf : Nat} {lf lb : Array Value} (hg : a.eval g = .func (.func gf) lf lb) (hFg : F.fn gf) (eg : ∀ args w, (callFunc gf args).run P w = .ok (.enter gf args) w)
    {encs : α → Array Value} {xs : List α} {κ : Nat} (hit : IterW Pr κ F (n - 1) P gf (fun y => lf ++ #[y] ++ lb) encs xs) (hps : ∀ x, (encs x).size = ps.size)
    (I : List α → World → Prop) (Ix : Code → List α → World → Prop) (hPr : ∀ pre A, I pre A → Pr A) (hIW : ∀ pre A A' r, I pre A → w.heap.size + 2 ≤ r → r < w.heap.size + 2 + κ → A.grownBy A' (some r) → I pre A') (hI : OwnFrom w.heap.size I) (hIx : ∀ c, OwnFrom w.heap.size (Ix c)) (h0 : I [] w) (a₁ : α → Act)
    (hassign : ∀ (l : Nat) (x : α) (W : World) (K : Act → World → Prop), K (a₁ x) W →
      assign.wpIn (F.inRound l) (n - 1 - 1) P (Exit.then K (fun _ _ _ => False)) { tmps := (ps.zip (encs x)).foldl (fun t (p, v) => t.setIfInBounds p v) a.tmps, defers := [] } W)
    (hbody : ∀ (l : Nat) (pre : List α) (x : α) (W : World), I pre W → pre ++ [x] <+: xs → w.heap.size + 2 + κ ≤ W.heap.size → body.wpIn (F.inRound l) (n - 1 - 1) P (ownPostG w.heap.size (KeepsIn (w.heap.size + 2) κ) I Ix (pre ++ [x]) W) (a₁ x) W)
    (hdone : ∀ (D : Nat) (W : World), w.heap.size ≤ D → I xs W → W.heap[D]? = some (.deferred (some [])) → Q .normal { a with defers := { target := .collected D, args := #[] } :: a.defers } W)
    (hstop : ∀ (D : Nat) (c : Code) (pre : List α) (W : World), w.heap.size ≤ D → pre <+: xs → Ix c pre W → W.heap[D]? = some (.deferred (some [])) → c.wpIn F n P Q { a with defers := { target := .collected D, args := #[] } :: a.defers } W) :
    (Code.rangeFunc g ps assign body).wpIn F n P Q a w :=
  range_law4 hro h1 hg hFg eg hit hps I Ix hPr hIW hI hIx h0 (fun x a' _ => a' = a₁ x) (fun _ _ _ _ _ _ h _ _ => h)
    (fun l _ x W K hi _ _ hK => hassign l x W K (hK _ _ (KeepsNew.refl _ _) hi rfl)) (fun l pre x a' W hi ha hp hs => by subst ha; exact hbody l pre x W hi hp hs) hdone hstop
end Go.PM
namespace Go.PW
open Go.PM Go.RowKit
theorem Ent.unique {nx : Nat → Option Nat} {s : Nat} {a b : Option Nat} (h : Ent nx s a) (k : Ent nx s b) : a = b := by
  obtain ⟨D, hD, h⟩ := h
  obtain ⟨E, hE, k⟩ := k
  have := hD.unique hE
  subst this
  rcases h with ⟨rfl, j, hj⟩ | ⟨rfl, h⟩
  · rcases k with ⟨rfl, _⟩ | ⟨rfl, k⟩
    · rfl
    · exact absurd hj (k j)
  · rcases k with ⟨rfl, j, hj⟩ | ⟨rfl, k⟩
    · exact absurd hj (h j)
    · rfl
theorem ent_ex {nx : Nat → Option Nat} (hn : Nice nx) {s : Nat} (hs : s < 19) : ∃ m, Ent nx s m := by
  obtain ⟨D, hD, _⟩ := (way_rho hn hs).stops
  by_cases h : ∃ k, orb nx s k = none
  · exact ⟨none, D, hD, .inl ⟨rfl, h⟩⟩
  · exact ⟨orb nx s D, D, hD, .inr ⟨rfl, fun k hk => h ⟨k, hk⟩⟩⟩
theorem ringsF_pre {nx : Nat → Option Nat} {a b : Nat} (h : a ≤ b) : ringsF nx a <+: ringsF nx b := by
  induction b with
  | zero => have : a = 0 := by omega
            subst this; exact List.prefix_refl _
  | succ b ih =>
    by_cases e : a = b + 1
    · subst e; exact List.prefix_refl _
    · have h1 := ih (by omega)
      by_cases hc : onRb nx b = true ∧ b ∉ (ringsF nx b).flatten
      · rw [ringsF_yes hc.1 hc.2]; exact h1.trans (List.prefix_append _ _)
      · rw [ringsF_no hc]; exact h1
section
variable {P : Program} {C : World → Prop}
/-- two pointers held against each other in a quiet region -/
theorem ptr_step {F : Fence} {n : Nat} {ops : Array Oper} {Q : Act → Prop} {a : Act} {o : Oper} {rest : List Oper} (hgd : Region.wanted o (yielded ops a.tmps) = true) (ty ty2 : TypeId) (x y : Operand) (ho : o.op = .binOp .neq ty x y ty2) (p q : Option Addr) (hx : a.eval x = .pointer p) (hy : a.eval y = .pointer q) (v : Value)
    (hC : ∀ W, C W → (binOp .neq ty (.pointer p) (.pointer q)).run P W = .ok v W) (h : wpQuietIn F n P ops C Q rest (a.put o.dst v)) : wpQuietIn F n P ops C Q (o :: rest) a := by
  refine wpQuietIn_step (fun w _ f hf => by simp [Oper.about, ho] at hf) (fun K hK => ?_)
  rw [if_pos hgd]
  refine ⟨v, fun W hW => ?_, hK _ h⟩
  unfold Oper.quietAtIn
  have hg : (eqGuard .neq ty x y (.pointer p) (.pointer q)).run P W = .ok () W := by
    simp [eqGuard]
  simp only [execOp, ho, hx, hy, hg, Sem.run_bind, hC W hW, Result.andThen_ok, Sem.run_pure]
  exact ⟨rfl, rfl⟩
end
end Go.PW
namespace Go.Proofs.YthgcoocgeekdnaaGreatDoor
open Go.RowKit Go.PM Go.PW Go.Lib
attribute [local go_sem] Oper.semAt_some

theorem neqp_nil (w : World) (a : Addr) : (binOp .neq 126 (.pointer none) (.pointer (some a))).run Tryz.prog w = .ok (.bool true) w := by
  have h : ∀ d : Nat, (Op.equalIn (d + 1) 126 (.pointer none) (.pointer (some a))).run Tryz.prog w = .ok false w := fun d => by
    simp [Op.equalIn, run_underlying Tryz.underlying126]
  simp only [binOp]
  simp [Op.equal, Op.maxDepth, h 9999]
theorem entrance_v (b : Nat) (nx : Nat → Option Nat) (hn : Nice nx) (s : Nat) (hs : s < 19) (m : Option Nat) (hm : Ent nx s m) (w : World) (hS : Spots w b nx) :
    Calls Tryz.prog 106 #[spotV b (some s)] w fun e w' => e = .returned (spotV b m) ∧ Below w.heap.size w w' :=
  (entrance_c b nx hn s hs w hS).mono fun e w' ⟨⟨m', e1, e2⟩, e3⟩ => ⟨by rw [e1, hm.unique e2], e3⟩
set_option maxRecDepth 100000 in
set_option maxHeartbeats 1000000 in
theorem rings_iter (b : Nat) (nx : Nat → Option Nat) (hn : Nice nx) :
    IterW (fun W => Spots W b nx) 3 Fence.wide 4 Tryz.prog 96 (fun y => #[.pointer (some ⟨b, 0, none⟩)] ++ #[y] ++ #[]) (fun r : List Nat => #[.string (txt r)]) (ringsF nx 9) := by
  intro l J Jx W hJ hJx hPr hJW hY h0
  change CallsIn _ _ _ _ #[.pointer (some ⟨b, 0, none⟩), .func (.yield l) #[] #[]] W _
  refine callsIn_of_wp_marks Tryz.func96 rfl trivial ?_ rfl
  simp only [Tryz.ntmps96, List.size_toArray, List.length_cons, List.length_nil, Nat.reduceAdd, Nat.reduceSub, Array.replicate_succ, Array.replicate_zero, List.push_toArray, List.append_toArray, List.nil_append, List.cons_append]
  obtain ⟨W0, hW0⟩ : ∃ W0 : World, W0 = ((W.alloc (.cells #[.pointer (some ⟨b, 0, none⟩)] 122)).alloc (.cells #[.func (.yield l) #[] #[]] 79)).alloc (.cells #[.string ⟨#[]⟩] 9) := ⟨_, rfl⟩
  have hS0 : W0.heap.size = W.heap.size + 3 := by rw [hW0]; simp only [World.size_alloc]
  have hA0 : At W0 W.heap.size 122 #[.pointer (some ⟨b, 0, none⟩)] := by rw [hW0]; exact ((At.new _ _ _).alloc _).alloc _
  have hA1 : At W0 (W.heap.size + 1) 79 #[.func (.yield l) #[] #[]] := by
    rw [hW0]; have := At.new (W.alloc (.cells #[.pointer (some ⟨b, 0, none⟩)] 122)) 79 #[.func (.yield l) #[] #[]]
    rw [World.size_alloc] at this
    exact this.alloc _
  have hA2 : At W0 (W.heap.size + 2) 9 #[.string ⟨#[]⟩] := by
    rw [hW0]; have := At.new ((W.alloc (.cells #[.pointer (some ⟨b, 0, none⟩)] 122)).alloc (.cells #[.func (.yield l) #[] #[]] 79)) 9 #[.string ⟨#[]⟩]
    rw [World.size_alloc, World.size_alloc] at this
    exact this
  have hJ0 : J [] W0 := by rw [hW0]; exact hJ.alloc _ (hJ.alloc _ (hJ.alloc _ h0))
  gi_wp2
  rw [← hW0]
  clear hW0
  refine range_law (F := Fence.wide) (gf := 103) (lf := #[.int .i64 9]) (lb := #[]) rfl (by decide) rfl trivial (fun args w => rfl) (encs := fun p : Nat => #[.int .i64 p]) (xs := List.range 9)
    (below_iter _ _ trivial rfl (by decide)) (fun _ => rfl)
    (fun pre A => J (ringsF nx pre.length) A ∧ At A W.heap.size 122 #[.pointer (some ⟨b, 0, none⟩)] ∧ At A (W.heap.size + 1) 79 #[.func (.yield l) #[] #[]] ∧ At A (W.heap.size + 2) 9 #[.string (txt (ringsF nx pre.length).flatten)])
    (fun c pre A => c = .ret ∧ ∃ pre2, pre2 <+: ringsF nx 9 ∧ Jx pre2 A) ?own ?ownx ?start ?a1 ?assign ?body ?done ?stop
  case own =>
    rintro s A A' row ⟨h1, h2, h3, h4⟩ hg hr
    have hr' : ∀ r, row = some r → W.heap.size + 3 ≤ r := fun r e => by have := (hr r e).1; omega
    have hne : ∀ b, b < W.heap.size + 3 → some b ≠ row := fun b hb e => by have := hr' _ e.symm; omega
    exact ⟨hJ _ A A' row h1 hg (fun r e => ⟨by have := hr' r e; omega, (hr r e).2⟩), h2.grown hg (hne _ (by omega)), h3.grown hg (hne _ (by omega)), h4.grown hg (hne _ (by omega))⟩
  case ownx =>
    rintro c s A A' row ⟨h1, pre2, h2, h3⟩ hg hr
    have hr' : ∀ r, row = some r → W.heap.size + 3 ≤ r := fun r e => by have := (hr r e).1; omega
    exact ⟨h1, pre2, h2, hJx _ A A' row h3 hg (fun r e => ⟨by have := hr' r e; omega, (hr r e).2⟩)⟩
  case start => exact ⟨hJ0, hA0, hA1, hA2⟩
  case assign =>
    intro l p W Kc hK
    gi_wp2
    exact hK
  case body =>
    clear hJ0 hA0 hA1 hA2
    rintro l2 pre p A ⟨h1, h2, h3, h4⟩ hp hsz
    obtain ⟨hpl, hp9⟩ := pre_len pre p hp
    rw [hpl] at h1 h4
    have HPL : Hid ((pre ++ [p]).length = p + 1) := by show _ = _; simp [hpl]
    have hSA := hPr _ A h1
    have i0 : (0 : Int) ≤ (p : Int) := by omega
    have i1 : (p : Int) < 19 := by omega
    obtain ⟨m, hm⟩ := ent_ex hn (show p < 19 by omega)
    have HENT := Lib.hid (fun W' hS => entrance_v b nx hn p (by omega) m hm W' hS)
    have hc2 : A.cell? ⟨W.heap.size, 0, none⟩ = some (.pointer (some ⟨b, 0, none⟩)) := h2.cell 0
    have hbA := hSA.lt
    have hENT : ∀ x : Ext A.heap.size A.drew, Calls Tryz.prog 106 #[.pointer (some ⟨b, p * 2, none⟩)] x.val fun e w' => e = .returned (spotV b m) ∧ Below x.val.heap.size x.val w' := fun x => HENT.out x.val (hSA.below ((Below.refl _ _).drew.trans x.property))
    have hSX : ∀ x : Ext A.heap.size A.drew, Spots x.val b nx := fun x => hSA.below ((Below.refl _ _).drew.trans x.property)
    by_cases hon : m = some p
    · subst hon
      have honR : onRb nx p = true := (onRb_iff hn (by omega)).2 ((hm.onR (way_rho hn (by omega))).1 rfl)
      have hlt9 := ringsF_lt hn p (by omega)
      have hmem := txt_mem hlt9.1 (show p < 19 by omega)
      have hszf := txt_size (ringsF nx p).flatten
      have hneq : ∀ W, (∃ x : Ext A.heap.size A.drew, W = x.val) → (binOp .neq 126 (.pointer (some ⟨b, p * 2, none⟩)) (.pointer (some ⟨b, p * 2, none⟩))).run Tryz.prog W = .ok (.bool false) W := by
        rintro W ⟨x, rfl⟩; exact neqp_yes x.val _
      have hx4 : ∀ x : Ext A.heap.size A.drew, x.val.cell? ⟨W.heap.size + 2, 0, none⟩ = some (.string (txt (ringsF nx p).flatten)) := fun x => (x.property.cell (p := ⟨W.heap.size + 2, 0, none⟩) h4.lt).trans (h4.cell 0)
      have hxn : ∀ x : Ext A.heap.size A.drew, x.val.cell? ⟨b, p * 2, none⟩ = some (.string ⟨#[ch p]⟩) := fun x => (hSX x).name p (by omega)
      have hcon : ∀ x : Ext A.heap.size A.drew, Calls Tryz.prog 42 #[.string (txt (ringsF nx p).flatten), .string ⟨#[ch p]⟩] x.val fun e w' => e = .returned (.bool (decide (ch p ∈ (txt (ringsF nx p).flatten).data.toList))) ∧ x.val = w' := fun x =>
        (Tryz.strings_Contains_one _ _ x.val).mono fun _ _ ⟨e1, e2⟩ => ⟨by
          rw [e1]; congr 2; simp only [indexByte_mem], e2.symm⟩
      have hent : ∀ x : Ext A.heap.size A.drew, Calls Tryz.prog 106 #[.pointer (some ⟨b, p * 2, none⟩)] x.val fun e w' => e = .returned (.pointer (some ⟨b, p * 2, none⟩)) ∧ Below x.val.heap.size x.val w' := hENT
      have HWB := Lib.hid (fun W' (hS : Spots W' b nx) => wayBack_c b nx hn p (by omega) W' hS)
      have hwl := (way_rho hn (show p < 19 by omega)).len
      have hwz := txt_size (way nx p)
      clear hENT
      by_cases hin : p ∈ (ringsF nx p).flatten
      · have hd : decide (ch p ∈ (txt (ringsF nx p).flatten).data.toList) = true := by simpa using hmem.2 hin
        have HNO := Lib.hid (ringsF_no (nx := nx) (k := p) (fun h => h.2 hin))
        rw [hd] at hcon
        clear hd hmem hin
        generalize ch p = c at *
        gi_wp2
        refine region_quiet_inRound (F := Fence.wide) (C := fun w' => ∃ x : Ext A.heap.size A.drew, w' = x.val) rfl (by kernel_rfl) (by kernel_rfl) (by kernel_rfl) ⟨⟨_, Below.refl _ _⟩, rfl⟩ ?_
        simp only
        gi_big_quiet_step (fail)
        (refine BigFrame.wpQuietIn_want (fun _ _ _ _ => trivial) rfl (fun K hK => ?_); gi_big_quiet_op; refine ⟨_, fun _ => callsIn_wide.2 (ext_call _ (Nat.le_refl _) (hent _)), hK _ ?_⟩; clear hK K)
        gi_big_quiet_step (fail)
        refine ptr_step rfl 126 _ (.tmp 15) (.tmp 16) rfl (some ⟨b, p * 2, none⟩) (some ⟨b, p * 2, none⟩) (by rfl) (by rfl) (.bool false) hneq ?_
        simp only [Act.put, List.setIfInBounds_toArray, List.set_cons_succ, List.set_cons_zero]
        gi_big_quiet_step (fail)
        gi_big_quiet_step (fail)
        gi_big_quiet_step (fail)
        gi_big_quiet_step (fail)
        gi_big_quiet_step (fail)
        gi_big_quiet_step (fail)
        (refine BigFrame.wpQuietIn_want (fun _ _ _ _ => trivial) rfl (fun K hK => ?_); gi_big_quiet_op; refine ⟨_, fun _ => callsIn_wide.2 (ext_same _ (hcon _)), hK _ ?_⟩; clear hK K)
        gi_big_quiet_step (fail)
        refine wpQuietIn_nil ?_
        rintro W2 ⟨xw, rfl⟩
        have hb2 : Below A.heap.size A xw.val := ((Below.refl _ _).drew).trans xw.property
        clear hx4 hxn hcon hent hSX hneq
        generalize xw.val = W2 at *
        have j1 := hJ _ A W2 none h1 (grown_below hb2 none) (fun r e => by cases e)
        have k2 := h2.keep hb2
        have k3 := h3.keep hb2
        have k4 := h4.keep hb2
        gi_wp2
        exact ⟨keepsFrom_below hb2, KeepsIn.zero hb2.size, by rw [HPL.out, HNO.out]; exact j1, k2, k3, by rw [HPL.out, HNO.out]; exact k4⟩
      · have hd : decide (ch p ∈ (txt (ringsF nx p).flatten).data.toList) = false := by simpa using fun h => hin (hmem.1 h)
        have hyes := ringsF_yes honR hin
        have HYES := Lib.hid hyes
        have HSX2 : Hid (txt (ringsF nx (p + 1)).flatten = txt (ringsF nx p).flatten ++ txt (way nx p)) := by
          show _ = _
          rw [hyes, List.flatten_append, txt_append]; simp
        have hpre : ringsF nx p ++ [way nx p] <+: ringsF nx 9 := by rw [← hyes]; exact ringsF_pre (by omega)
        rw [hd] at hcon
        clear hd hmem hin hyes
        generalize ch p = c at *
        gi_wp2
        refine region_quiet_inRound (F := Fence.wide) (C := fun w' => ∃ x : Ext A.heap.size A.drew, w' = x.val) rfl (by kernel_rfl) (by kernel_rfl) (by kernel_rfl) ⟨⟨_, Below.refl _ _⟩, rfl⟩ ?_
        simp only
        gi_big_quiet_step (fail)
        (refine BigFrame.wpQuietIn_want (fun _ _ _ _ => trivial) rfl (fun K hK => ?_); gi_big_quiet_op; refine ⟨_, fun _ => callsIn_wide.2 (ext_call _ (Nat.le_refl _) (hent _)), hK _ ?_⟩; clear hK K)
        gi_big_quiet_step (fail)
        refine ptr_step rfl 126 _ (.tmp 15) (.tmp 16) rfl (some ⟨b, p * 2, none⟩) (some ⟨b, p * 2, none⟩) (by rfl) (by rfl) (.bool false) hneq ?_
        simp only [Act.put, List.setIfInBounds_toArray, List.set_cons_succ, List.set_cons_zero]
        gi_big_quiet_step (fail)
        gi_big_quiet_step (fail)
        gi_big_quiet_step (fail)
        gi_big_quiet_step (fail)
        gi_big_quiet_step (fail)
        gi_big_quiet_step (fail)
        (refine BigFrame.wpQuietIn_want (fun _ _ _ _ => trivial) rfl (fun K hK => ?_); gi_big_quiet_op; refine ⟨_, fun _ => callsIn_wide.2 (ext_same _ (hcon _)), hK _ ?_⟩; clear hK K)
        gi_big_quiet_step (fail)
        refine wpQuietIn_nil ?_
        rintro W2 ⟨xw, rfl⟩
        have hb2 : Below A.heap.size A xw.val := ((Below.refl _ _).drew).trans xw.property
        have hSW := hSX xw
        clear hx4 hxn hcon hent hSX hneq
        generalize xw.val = W2 at *
        have j1 := hJ _ A W2 none h1 (grown_below hb2 none) (fun r e => by cases e)
        have k2 := h2.keep hb2
        have k3 := h3.keep hb2
        have k4 := h4.keep hb2
        have hz2 := hb2.size
        gi_wp2
        refine ⟨trivial, CallsIn.inRound l2 (callsIn_wide.2 ((HWB.out W2 hSW).mono ?_))⟩
        rintro e W3 ⟨rfl, hb3⟩
        have j3 := hJ _ W2 W3 none j1 (grown_below hb3 none) (fun r e => by cases e)
        have m2 := k2.keep hb3
        have m3 := k3.keep hb3
        have m4 := k4.keep hb3
        have hz3 := hb3.size
        have kf3 : KeepsFrom W0.heap.size A W3 := (keepsFrom_below hb2).trans (keepsFrom_below hb3)
        obtain ⟨fn, tmps, assign, body, hy, hR⟩ := yieldAt_wide (m := 1) (hY (ringsF nx p) (way nx p) W3 j3 (by omega) hpre)
        have hyc : W3.cell? ⟨W.heap.size + 1, 0, none⟩ = some (.func (.yield l) #[] #[]) := m3.cell 0
        clear h1 h2 h3 h4 k2 k3 k4 j1
        gi_wp2
        refine hR.mono ?_
        rintro e A2 (⟨rfl, hJ3, hKN, hKF⟩ | ⟨rfl, hJ3, _, hKF⟩)
        · have q2 : At A2 W.heap.size 122 #[.pointer (some ⟨b, 0, none⟩)] := (hKN.same _ (Nat.le_refl _) (by omega)).trans m2
          have q3 : At A2 (W.heap.size + 1) 79 #[.func (.yield l) #[] #[]] := (hKN.same _ (by omega) (by omega)).trans m3
          have q4 : At A2 (W.heap.size + 2) 9 #[.string (txt (ringsF nx p).flatten)] := (hKN.same _ (by omega) (by omega)).trans m4
          have kN : W3.heap.size ≤ A2.heap.size := hKN.size
          have kF : KeepsFrom W0.heap.size A A2 := kf3.trans ⟨hKF.size, fun k o hk h4 h5 => hKF.same k o (by omega) h4 h5⟩
          have c4 : A2.cell? ⟨W.heap.size + 2, 0, none⟩ = some (.string (txt (ringsF nx p).flatten)) := q4.cell 0
          have f4 : A2.frozen? ⟨W.heap.size + 2, 0, none⟩ = false := q4.frozen 0
          have l4 := q4.lt
          have hgs : A2.grownBy (A2.setCell ⟨W.heap.size + 2, 0, none⟩ (.string (txt (ringsF nx p).flatten ++ txt (way nx p)))) (some (W.heap.size + 2)) := grownBy_setCell' A2 (W.heap.size + 2) _
          have j5 := hJW _ A2 _ (W.heap.size + 2) hJ3 (by omega) (by omega) hgs
          have s2 := q2.far (p := ⟨W.heap.size + 2, 0, none⟩) (by simp) (.string (txt (ringsF nx p).flatten ++ txt (way nx p)))
          have s3 := q3.far (p := ⟨W.heap.size + 2, 0, none⟩) (by simp) (.string (txt (ringsF nx p).flatten ++ txt (way nx p)))
          have s4 := q4.set 0 (.string (txt (ringsF nx p).flatten ++ txt (way nx p)))
          clear hR hY m2 m3 m4 q2 q3 q4 hgs
          gi_wp2
          refine ⟨kF.trans ((KeepsOthers.setCell _ _ _).from _), KeepsIn.zero (by simp [World.size_setCell]; omega), ?_, s2, s3, ?_⟩
          · rw [HPL.out, HYES.out]; exact j5
          · rw [HPL.out, HSX2.out]; exact s4
        · have kF : KeepsFrom W0.heap.size A A2 := kf3.trans ⟨hKF.size, fun k o hk h4 h5 => hKF.same k o (by omega) h4 h5⟩
          clear hR hY m2 m3 m4
          gi_wp2
          exact ⟨kF, rfl, _, hpre, hJ3⟩
    · have hno := ringsF_no (nx := nx) (k := p) (fun h => hon ((hm.onR (way_rho hn (by omega))).2 ((onRb_iff hn (by omega)).1 h.1)))
      have HNO := Lib.hid hno
      have hneq : ∀ x : Ext A.heap.size A.drew, ∃ q, spotV b m = .pointer q ∧ (binOp .neq 126 (.pointer q) (.pointer (some ⟨b, p * 2, none⟩))).run Tryz.prog x.val = .ok (.bool true) x.val := fun x => by
        cases m with
        | none => exact ⟨none, rfl, neqp_nil _ _⟩
        | some y => exact ⟨_, rfl, neqp_no x.val b nx (hSX x) y p (fun e => hon (by rw [e]))⟩
      clear hno hon hm
      gi_wp2
      refine region_quiet_inRound (F := Fence.wide) (C := fun w' => ∃ x : Ext A.heap.size A.drew, w' = x.val) rfl (by kernel_rfl) (by kernel_rfl) (by kernel_rfl) ⟨⟨_, Below.refl _ _⟩, rfl⟩ ?_
      simp only
      gi_big_quiet_step (fail)
      (refine BigFrame.wpQuietIn_want (fun _ _ _ _ => trivial) rfl (fun K hK => ?_); gi_big_quiet_op; refine ⟨_, fun _ => callsIn_wide.2 (ext_call _ (Nat.le_refl _) (hENT _)), hK _ ?_⟩; clear hK K)
      gi_big_quiet_step (fail)
      obtain ⟨q, hq1, hq2⟩ : ∃ q, spotV b m = .pointer q ∧ ∀ W, (∃ x : Ext A.heap.size A.drew, W = x.val) → (binOp .neq 126 (.pointer q) (.pointer (some ⟨b, p * 2, none⟩))).run Tryz.prog W = .ok (.bool true) W := by
        obtain ⟨q, e1, _⟩ := hneq ⟨_, Below.refl _ _⟩
        refine ⟨q, e1, ?_⟩
        rintro W ⟨x, rfl⟩
        obtain ⟨q', e2, e3⟩ := hneq x
        rw [e1] at e2
        cases e2
        exact e3
      clear hneq
      rw [hq1]
      refine ptr_step rfl 126 _ (.tmp 15) (.tmp 16) rfl q (some ⟨b, p * 2, none⟩) (by rfl) (by rfl) (.bool true) hq2 ?_
      simp only [Act.put, List.setIfInBounds_toArray, List.set_cons_succ, List.set_cons_zero]
      repeat (first | gi_big_quiet_step (fail) | (refine BigFrame.wpQuietIn_skip (fun _ _ _ _ => trivial) rfl ?_; simp only [Act.put, List.setIfInBounds_toArray, List.set_cons_succ, List.set_cons_zero]))
      refine wpQuietIn_nil ?_
      rintro W2 ⟨xw, rfl⟩
      have hb2 : Below A.heap.size A xw.val := ((Below.refl _ _).drew).trans xw.property
      clear hENT hSX hq2
      generalize xw.val = W2 at *
      have j1 := hJ _ A W2 none h1 (grown_below hb2 none) (fun r e => by cases e)
      have k2 := h2.keep hb2
      have k3 := h3.keep hb2
      have k4 := h4.keep hb2
      gi_wp2
      exact ⟨keepsFrom_below hb2, KeepsIn.zero hb2.size, by rw [HPL.out, HNO.out]; exact j1, k2, k3, by rw [HPL.out, HNO.out]; exact k4⟩
  case done =>
    clear hJ0 hA0 hA1 hA2 hY
    intro D A hD hI hd
    obtain ⟨h1, h2, h3, h4⟩ := hI
    gi_wp2
    refine ⟨by simp, .inl ⟨D, _, rfl, run_takeDeferred hd, ?_⟩⟩
    refine ⟨_, results_none rfl _ _ _, ⟨_, rfl⟩, .inl ?_⟩
    exact hJ.putObj _ h1 (by omega) hd rfl
  case stop =>
    clear hJ0 hA0 hA1 hA2 hY
    rintro D c pre A hD hp ⟨rfl, pre2, hp2, h1⟩ hd
    gi_wp2
    refine ⟨by simp, .inl ⟨D, _, rfl, run_takeDeferred hd, ?_⟩⟩
    refine ⟨_, results_none rfl _ _ _, ⟨_, rfl⟩, .inr ⟨pre2, hp2, ?_⟩⟩
    exact hJx.putObj _ h1 (by omega) hd rfl
end Go.Proofs.YthgcoocgeekdnaaGreatDoor
namespace Go.PM
open Go.RowKit
theorem own_box_ne' {w : World} {base : Nat} {e t : TypeId} {size n b : Nat} {v : Value} {cs : List Value} {c : Array Value} (h : w.ownsRow base e size v n cs) (hA : At w b t c) (hne : e ≠ t) : some b ≠ v.ownBlock := by
  rcases h.2 with ⟨rfl, _⟩ | ⟨g, cap, cur, rfl, _, hg, _⟩
  · simp [Value.ownBlock]
  · intro e'
    simp only [Value.ownBlock, Option.some.injEq] at e'
    subst e'
    unfold At at hA
    rw [hA] at hg
    cases hg
    exact hne rfl
theorem own_turn' {w w' : World} {base : Nat} {e : TypeId} {size n : Nat} {v : Value} {cs : List Value} {row : Option Nat} (h : w.ownsRow base e size v n cs) (hg : w.grownBy w' row) (hr : ∀ r, row = some r → ∃ o : Obj, w.heap[r]? = some o ∧ o.isCells = false) : w'.ownsRow base e size v n cs := by
  refine h.kept hg ?_
  rcases h.2 with ⟨rfl, _⟩ | ⟨g, cap, cur, rfl, _, hh, _⟩
  · exact .inl rfl
  · refine .inr fun e' => ?_
    obtain ⟨o, ho, hc⟩ := hr g e'.symm
    rw [hh] at ho
    cases ho
    cases hc
theorem at_turn' {w w' : World} {b : Nat} {t : TypeId} {c : Array Value} {row : Option Nat} (h : At w b t c) (hg : w.grownBy w' row) (hr : ∀ r, row = some r → ∃ o : Obj, w.heap[r]? = some o ∧ o.isCells = false) : At w' b t c := by
  refine (hg.block b h.lt fun e' => ?_).trans h
  obtain ⟨o, ho, hc⟩ := hr b e'.symm
  unfold At at h
  rw [h] at ho
  cases ho
  cases hc
theorem at_grown' {w w' : World} {b : Nat} {t : TypeId} {cs : Array Value} {row : Option Nat} (h : At w b t cs) (hg : w.grownBy w' row) (hne : some b ≠ row) : At w' b t cs := (hg.block b h.lt hne).trans h
end Go.PM
