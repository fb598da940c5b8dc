import Derived.Test.YthgcoocgeekdnaaGreatDoorJzA
import Derived.Test.YthgcoocgeekdnaaGreatDoorHold
import Derived.Test.YthgcoocgeekdnaaGreatDoorRange
import Derived.Deep.AppendLies
import Derived.Scope
import Derived.WalkMore
import Derived.Test.YthgcoocgeekdnaaGreatDoorRow
import Derived.Test.YthgcoocgeekdnaaGreatDoorBusy
import Derived.Test.YthgcoocgeekdnaaGreatDoorClP
import Derived.Test.YthgcoocgeekdnaaGreatDoorSp1
import Derived.Test.YthgcoocgeekdnaaGreatDoorSource
import Derived.Test.YthgcoocgeekdnaaGreatDoorApp
import Derived.Test.YthgcoocgeekdnaaGreatDoorTurn
import Derived.Test.YthgcoocgeekdnaaGreatDoorDraw3
import Derived.Test.YthgcoocgeekdnaaGreatDoorCut
namespace Go.PW
open Go.RowKit Go.PM
theorem Spots.of_at {w w' : World} {b : Nat} {nx : Nat → Option Nat} (h : Spots w b nx) (hk : ∀ t cs, At w b t cs → At w' b t cs) : Spots w' b nx := by
  obtain ⟨t, cs, hA⟩ := h.row
  have hB := hk t cs hA
  exact ⟨⟨t, cs, hB⟩, fun i hi => by rw [hB.cell, ← hA.cell]; exact h.name i hi, fun i hi => by rw [hB.cell, ← hA.cell]; exact h.src i hi⟩
end Go.PW
namespace Go.Proofs.YthgcoocgeekdnaaGreatDoor
open Go.RowKit Go.PM Go.PW Go.Lib
attribute [local go_sem] Oper.semAt_some

theorem appIn_str {F : Fence} {k : Nat} {ops : Array Oper} {rest : List Oper} {o : Oper} {a : Act} {Q : Exit → Act → World → Prop} {w : World} (hgd : o.guard = none) (s x : Operand)
    (ho : o.op = .call { callee := .builtin .append, args := #[s, x], argTypes := #[23, 23] })
    (base : Nat) (v : Value) (ys : List ByteArray) (m : ByteArray) (ad : Addr) (c : Nat) (hs : a.eval s = v) (hx : a.eval x = .slice (some ad) 1 c)
    (hown : w.ownsRow base 9 1 v ys.length (tcells ys)) (hnew : ∀ j u, [Value.string m][j]? = some u → w.cell? (ad.add j) = some u)
    (hlen : ys.length ≤ 1048576) (hbase : base ≤ w.heap.size)
    (h : ∀ v' w', w'.ownsRow base 9 1 v' (ys ++ [m]).length (tcells (ys ++ [m])) → w.grownBy w' v.ownBlock → wpListIn F k Tryz.prog ops Q rest (a.put o.dst v') w') : wpListIn F k Tryz.prog ops Q (o :: rest) a w := by
  obtain ⟨i0, hi0, hz0, hz1, hz2⟩ := info_parts infoStr
  refine wpListIn_append_own w hgd s x _ ho base 9 i0 _ 1 16 Tryz.underlying23 hi0 hz0 hz1 hz2 rfl (by omega) v ys.length (tcells ys) hs hown ad 1 c [Value.string m] hx rfl hnew
    (by intro u hu; simp at hu; subst hu; rfl) (by simp only [maxLen]; omega) (by omega) hbase ?_
  intro v' w' h2 h3 _
  refine h v' w' ?_ h3
  rw [tcells_append, List.length_append]
  simpa [tcells] using h2

end Go.Proofs.YthgcoocgeekdnaaGreatDoor
namespace Go.PW
open Go.PM

/-- two sets become one -/
def joinH (h : Nat → Nat) (a b : Nat) : Nat → Nat := fun q => if h q = h a then h b else h q
/-- which place stands for a place's wheel, when the first k places are joined with their sources -/
def hdF (f : Nat → ByteArray) : Nat → Nat → Nat
  | 0 => id
  | k + 1 => if sx f k < 9 then joinH (hdF f k) k (sx f k) else hdF f k
variable {f : Nat → ByteArray}
theorem hdF_yes {k : Nat} (h : sx f k < 9) : hdF f (k + 1) = joinH (hdF f k) k (sx f k) := by rw [hdF, if_pos h]
theorem hdF_no {k : Nat} (h : ¬ sx f k < 9) : hdF f (k + 1) = hdF f k := by rw [hdF, if_neg h]
theorem hd_sound (S : Nat → Prop) : ∀ k, (∀ p, p < k → sx f p < 9 → (S p ↔ S (sx f p))) → ∀ q r, hdF f k q = hdF f k r → (S q ↔ S r) := by
  intro k
  induction k with
  | zero => intro _ q r e; have : q = r := e; rw [this]
  | succ k ih =>
    intro hS q r e
    have ih := ih (fun p hp => hS p (by omega))
    by_cases h9 : sx f k < 9
    · rw [hdF_yes h9] at e
      have hk := hS k (by omega) h9
      unfold joinH at e
      by_cases h1 : hdF f k q = hdF f k k
      · by_cases h2 : hdF f k r = hdF f k k
        · rw [ih q k h1, ih r k h2]
        · rw [if_pos h1, if_neg h2] at e
          rw [ih q k h1, hk, ih _ r e]
      · by_cases h2 : hdF f k r = hdF f k k
        · rw [if_neg h1, if_pos h2] at e
          rw [ih q _ e, ← hk, ih r k h2]
        · rw [if_neg h1, if_neg h2] at e
          exact ih q r e
    · rw [hdF_no h9] at e
      exact ih q r e
theorem hd_keep {k q r : Nat} (e : hdF f k q = hdF f k r) : hdF f (k + 1) q = hdF f (k + 1) r := by
  by_cases h9 : sx f k < 9
  · rw [hdF_yes h9]; unfold joinH; rw [e]
  · rw [hdF_no h9]; exact e
theorem hd_edge : ∀ k p, p < k → sx f p < 9 → hdF f k p = hdF f k (sx f p) := by
  intro k
  induction k with
  | zero => intro p h; omega
  | succ k ih =>
    intro p hp h9
    rcases Nat.lt_or_ge p k with h1 | h1
    · exact hd_keep (ih p h1 h9)
    · have : p = k := by omega
      subst this
      rw [hdF_yes h9]
      unfold joinH
      rw [if_pos rfl]
      by_cases h2 : hdF f p (sx f p) = hdF f p p
      · rw [if_pos h2]
      · rw [if_neg h2]
theorem hd_lt (k : Nat) (hk : k ≤ 9) : ∀ q, q < 9 → hdF f k q < 9 := by
  induction k with
  | zero => intro q h; exact h
  | succ k ih =>
    intro q hq
    by_cases h9 : sx f k < 9
    · rw [hdF_yes h9]; unfold joinH
      by_cases h1 : hdF f k q = hdF f k k
      · rw [if_pos h1]; exact ih (by omega) _ h9
      · rw [if_neg h1]; exact ih (by omega) _ hq
    · rw [hdF_no h9]; exact ih (by omega) q hq

/-- an array that leads each place to the one that stands for its set -/
structure Forest (w h dp : Nat → Nat) : Prop where
  lt : ∀ q, q < 9 → w q < 9
  hlt : ∀ q, q < 9 → h q < 9
  root : ∀ q, q < 9 → w q = q → h q = q
  up : ∀ q, q < 9 → w q ≠ q → dp (w q) < dp q ∧ h (w q) = h q
  top : ∀ q, q < 9 → w (h q) = h q
theorem Forest.id : Forest (fun q => q) (fun q => q) (fun _ => 0) := ⟨fun _ h => h, fun _ h => h, fun _ _ _ => rfl, fun _ _ h => absurd rfl h, fun _ _ => rfl⟩
theorem Forest.join {w h dp : Nat → Nat} (F : Forest w h dp) {a b : Nat} (ha : a < 9) (hb : b < 9) :
    ∃ dp', Forest (fun q => if q = h a then h b else w q) (joinH h a b) dp' := by
  have hab := F.hlt a ha
  have hbb := F.hlt b hb
  have ta := F.root _ hab (F.top a ha)
  have tb := F.root _ hbb (F.top b hb)
  by_cases he : h a = h b
  · refine ⟨dp, ⟨fun q hq => ?_, fun q hq => ?_, fun q hq e => ?_, fun q hq e => ?_, fun q hq => ?_⟩⟩
    all_goals
      have e1 : ∀ q, (if q = h a then h b else w q) = w q := by
        intro q
        by_cases h1 : q = h a
        · rw [if_pos h1, h1, ← he, F.top a ha]
        · rw [if_neg h1]
      have e2 : ∀ q, joinH h a b q = h q := by
        intro q; unfold joinH
        by_cases h1 : h q = h a
        · rw [if_pos h1, h1, he]
        · rw [if_neg h1]
      simp only [e1, e2] at *
    · exact F.lt q hq
    · exact F.hlt q hq
    · exact F.root q hq e
    · exact F.up q hq e
    · exact F.top q hq
  · refine ⟨fun q => if h q = h a then dp q + dp (h b) + 1 else dp q, ⟨fun q hq => ?_, fun q hq => ?_, fun q hq e => ?_, fun q hq e => ?_, fun q hq => ?_⟩⟩
    · show (if q = h a then h b else w q) < 9
      by_cases h1 : q = h a
      · rw [if_pos h1]; exact hbb
      · rw [if_neg h1]; exact F.lt q hq
    · unfold joinH
      by_cases h1 : h q = h a
      · rw [if_pos h1]; exact hbb
      · rw [if_neg h1]; exact F.hlt q hq
    · have e : (if q = h a then h b else w q) = q := e
      by_cases h1 : q = h a
      · rw [if_pos h1, h1] at e; exact absurd e.symm he
      · rw [if_neg h1] at e
        have := F.root q hq e
        unfold joinH
        rw [if_neg (by rw [this]; exact h1)]; exact this
    · have e : (if q = h a then h b else w q) ≠ q := e
      show (if h (if q = h a then h b else w q) = h a then dp (if q = h a then h b else w q) + dp (h b) + 1 else dp (if q = h a then h b else w q)) < (if h q = h a then dp q + dp (h b) + 1 else dp q) ∧ joinH h a b (if q = h a then h b else w q) = joinH h a b q
      by_cases h1 : q = h a
      · subst h1
        rw [if_pos rfl, if_neg (by rw [tb]; exact fun h => he h.symm), if_pos ta]
        refine ⟨by omega, ?_⟩
        unfold joinH
        rw [if_neg (by rw [tb]; exact fun h => he h.symm), if_pos ta, tb]
      · rw [if_neg h1] at e ⊢
        have u := F.up q hq e
        rw [u.2]
        refine ⟨?_, by unfold joinH; rw [u.2]⟩
        by_cases h2 : h q = h a
        · rw [if_pos h2, if_pos h2]; omega
        · rw [if_neg h2, if_neg h2]; exact u.1
    · show (if joinH h a b q = h a then h b else w (joinH h a b q)) = joinH h a b q
      unfold joinH
      by_cases h1 : h q = h a
      · rw [if_pos h1, if_neg (fun h => he h.symm)]; exact F.top b hb
      · rw [if_neg h1, if_neg h1]; exact F.top q hq

/-- a list of places that hang together with one and from which nothing leads out -/
structure Comp (f : Nat → ByteArray) (p : Nat) (l : List Nat) (done : Nat) : Prop where
  nodup : l.Nodup
  lt : ∀ q ∈ l, q < 9
  has : p ∈ l
  in_ : ∀ q ∈ l, hdF f 9 q = hdF f 9 p
  out : ∀ k q, k < done → l[k]? = some q → (sx f q < 9 → sx f q ∈ l) ∧ ∀ r, r < 9 → sx f r = q → r ∈ l
theorem Comp.all {p : Nat} {l : List Nat} (h : Comp f p l l.length) : ∀ q, q < 9 → (q ∈ l ↔ hdF f 9 q = hdF f 9 p) := by
  intro q hq
  refine ⟨h.in_ q, fun e => ?_⟩
  refine (hd_sound (f := f) (fun x => x ∈ l) 9 (fun r hr h9 => ?_) q p e).2 h.has
  have hin : ∀ x, x ∈ l → (sx f x < 9 → sx f x ∈ l) ∧ ∀ r, r < 9 → sx f r = x → r ∈ l := by
    intro x hx
    obtain ⟨k, hk⟩ := List.getElem?_of_mem hx
    exact h.out k x (List.getElem?_eq_some_iff.1 hk).1 hk
  exact ⟨fun hm => (hin r hm).1 h9, fun hm => (hin _ hm).2 r hr rfl⟩
end Go.PW
namespace Go.PW
open Go.PM
variable {f : Nat → ByteArray}
def wheelH (f : Nat → ByteArray) (p q : Nat) : Bool := decide (hdF f 9 q = hdF f 9 p)
/-- the wheel of a place, in order -/
def wheelL (f : Nat → ByteArray) (p : Nat) : List Nat := (List.range 9).filter (wheelH f p)
theorem wheelL_mem {p q : Nat} : q ∈ wheelL f p ↔ q < 9 ∧ hdF f 9 q = hdF f 9 p := by
  simp [wheelL, wheelH]
theorem wheelL_congr {p q : Nat} (e : hdF f 9 q = hdF f 9 p) : wheelL f q = wheelL f p := by
  unfold wheelL wheelH; rw [e]
theorem wheelL_lt {p : Nat} : ∀ a ∈ wheelL f p, a < 9 := fun _a ha => (wheelL_mem.1 ha).1
theorem wheelL_self {p : Nat} (hp : p < 9) : p ∈ wheelL f p := wheelL_mem.2 ⟨hp, rfl⟩
theorem wheelL_len (p : Nat) : (wheelL f p).length ≤ 9 := by
  have := List.length_filter_le (wheelH f p) (List.range 9)
  simpa [wheelL] using this
theorem head_le : ∀ (l : List Nat), l.Pairwise (· < ·) → ∀ a ∈ l, ∃ h, l.head? = some h ∧ h ≤ a ∧ h ∈ l
  | [], _, a, ha => by cases ha
  | x :: l, hp, a, ha => by
    refine ⟨x, rfl, ?_, by simp⟩
    rw [List.mem_cons] at ha
    rcases ha with rfl | ha
    · exact Nat.le_refl _
    · exact Nat.le_of_lt ((List.pairwise_cons.1 hp).1 a ha)
theorem wheelL_sorted (p : Nat) : (wheelL f p).Pairwise (· < ·) := by
  unfold wheelL
  exact (List.pairwise_lt_range (n := 9)).filter _
theorem wheelL_head {p : Nat} (hp : p < 9) : ∃ h, (wheelL f p).head? = some h ∧ h ≤ p ∧ h ∈ wheelL f p := head_le _ (wheelL_sorted p) p (wheelL_self hp)
/-- whether a place is the first one of a wheel of two places or more -/
def firstW (f : Nat → ByteArray) (p : Nat) : Bool := decide (1 < (wheelL f p).length ∧ (wheelL f p).head? = some p)
/-- the wheels of the first k places -/
def wheelsF (f : Nat → ByteArray) (k : Nat) : List (List Nat) := ((List.range k).filter (firstW f)).map (wheelL f)
theorem wheelsF_yes {k : Nat} (h : firstW f k = true) : wheelsF f (k + 1) = wheelsF f k ++ [wheelL f k] := by simp [wheelsF, List.range_succ, h]
theorem wheelsF_no {k : Nat} (h : firstW f k = false) : wheelsF f (k + 1) = wheelsF f k := by simp [wheelsF, List.range_succ, h]
theorem wheelsF_len (k : Nat) : (wheelsF f k).length ≤ k := by
  unfold wheelsF; rw [List.length_map]
  have := List.length_filter_le (firstW f) (List.range k)
  simpa using this
theorem flat_len : ∀ (l : List (List Nat)), (∀ x ∈ l, x.length ≤ 9) → l.flatten.length ≤ 9 * l.length
  | [], _ => by simp
  | x :: l, h => by
    have := flat_len l fun y hy => h y (by simp [hy])
    have := h x (by simp)
    simp only [List.flatten_cons, List.length_append, List.length_cons]; omega
theorem wheelsF_flat (k : Nat) : (∀ a ∈ (wheelsF f k).flatten, a < 9) ∧ (wheelsF f k).flatten.length ≤ 9 * k := by
  have hm : ∀ x ∈ wheelsF f k, ∃ p, x = wheelL f p := fun x hx => by
    obtain ⟨p, _, e⟩ := List.mem_map.1 hx; exact ⟨p, e.symm⟩
  refine ⟨fun a ha => ?_, ?_⟩
  · obtain ⟨x, hx, ha⟩ := List.mem_flatten.1 ha
    obtain ⟨p, rfl⟩ := hm x hx
    exact wheelL_lt a ha
  · have h1 := flat_len (wheelsF f k) fun x hx => by obtain ⟨p, rfl⟩ := hm x hx; exact wheelL_len p
    have h2 := wheelsF_len (f := f) k
    omega
/-- the first place of a wheel is not in an earlier one exactly if it is the place itself -/
theorem seen_iff {p : Nat} (hp : p < 9) (hl : 1 < (wheelL f p).length) {h : Nat} (hh : (wheelL f p).head? = some h) : h ∉ (wheelsF f p).flatten ↔ h = p := by
  obtain ⟨h', e, hle, hm⟩ := wheelL_head (f := f) hp
  rw [hh] at e; cases e
  have hc := (wheelL_mem.1 hm).2
  constructor
  · intro hn
    rcases Nat.lt_or_ge h p with h1 | h1
    · exfalso
      apply hn
      refine List.mem_flatten.2 ⟨wheelL f h, List.mem_map.2 ⟨h, List.mem_filter.2 ⟨by simpa using h1, ?_⟩, rfl⟩, wheelL_self (by omega)⟩
      unfold firstW
      rw [wheelL_congr hc, decide_eq_true_eq]
      exact ⟨hl, hh⟩
    · omega
  · rintro rfl hin
    obtain ⟨x, hx, ha⟩ := List.mem_flatten.1 hin
    obtain ⟨r, hr, rfl⟩ := List.mem_map.1 hx
    obtain ⟨hr1, hr2⟩ := List.mem_filter.1 hr
    unfold firstW at hr2
    rw [decide_eq_true_eq] at hr2
    have e1 := wheelL_congr (wheelL_mem.1 ha).2
    rw [← e1, hh] at hr2
    have := Option.some.inj hr2.2
    have : r < h := by simpa using hr1
    omega

/-- a ring's places have readers -/
theorem ring_pred {nx : Nat → Option Nat} {i : Nat} (h : OnR nx i) : ∃ j, nx j = some i := by
  obtain ⟨k, hk, e⟩ := h
  obtain ⟨k, rfl⟩ : ∃ m, k = m + 1 := ⟨k - 1, by omega⟩
  simp only [orb, Option.bind_eq_some_iff] at e
  obtain ⟨j, _, e⟩ := e
  exact ⟨j, e⟩
theorem ring_all {nx : Nat → Option Nat} (hn : Nice nx) {s : Nat} (hs : s < 19) (h : OnR nx s) : ∀ i ∈ way nx s, OnR nx i := by
  intro i hi
  have hr := way_rho hn hs
  have e := hr.onR.1 h
  obtain ⟨j, hj⟩ := List.getElem?_of_mem hi
  have hlt := (List.getElem?_eq_some_iff.1 hj).1
  rw [hr.at_ j hlt] at hj
  exact (hr.ring_at hr.pos (by rw [e]; rfl) hj).2 (Nat.zero_le _)
theorem ring_low {nx : Nat → Option Nat} (hn : Nice nx) {i : Nat} (h : OnR nx i) : i < 9 := by
  obtain ⟨k, hk, e⟩ := h
  obtain ⟨k, rfl⟩ : ∃ m, k = m + 1 := ⟨k - 1, by omega⟩
  rw [show k + 1 = 1 + k by omega, orb_add] at e
  cases h1 : orb nx i 1 with
  | none => rw [h1] at e; cases e
  | some j => exact hn.low i j (by simpa [orb] using h1)
/-- how many places read a spot -/
def rcount (f : Nat → ByteArray) (i : Nat) : Nat := (namesW (rdH f (sn i))).size
theorem rcount_pos {f : Nat → ByteArray} (hf : SV f) {i j : Nat} (hi : i < 19) (h : nxT f j = some i) : 1 ≤ rcount f i := by
  have hj := (nice hf).low _ _ h
  have hs : sx f j = i ∧ j ≠ i := by
    unfold nxT at h
    rw [if_pos hj] at h
    by_cases e : sx f j = j
    · rw [if_pos e] at h; cases h
    · rw [if_neg e, Option.some.injEq] at h; exact ⟨h, fun e2 => e (by rw [h, e2])⟩
  have hr : rdH f (sn i) j = true := by
    unfold rdH
    rw [← (sx_lt hf hj).2, hs.1, ← sn_nm j hj]
    simp only [decide_true, Bool.and_true, decide_eq_true_eq]
    exact fun e => hs.2 (sn_inj (by omega) hi e)
  unfold rcount namesW
  have : j ∈ (List.range 9).filter (rdH f (sn i)) := List.mem_filter.2 ⟨by simpa using hj, hr⟩
  have h0 := List.length_pos_of_mem this
  have e : (ByteArray.mk (namesL (rdH f (sn i)) (List.range 9)).toArray).size = ((List.range 9).filter (rdH f (sn i))).length := by simp [ByteArray.size, namesL]
  rw [e]; exact h0
/-- a ring that nobody reads from outside -/
def shut (f : Nat → ByteArray) (l : List Nat) : Bool := l.all fun i => decide (rcount f i ≤ 1)
theorem ring_one {f : Nat → ByteArray} (hf : SV f) {s : Nat} (hs : s < 19) (h : onRb (nxT f) s = true) {i : Nat} (hi : i ∈ way (nxT f) s) : (rcount f i ≤ 1 ↔ rcount f i = 1) := by
  have hn := nice hf
  have h1 := ring_all hn hs ((onRb_iff hn hs).1 h) i hi
  obtain ⟨j, hj⟩ := ring_pred h1
  have := rcount_pos hf ((way_rho hn hs).lt i hi) hj
  omega
end Go.PW
namespace Go.PW
open Go.PM
def shut1 (f : Nat → ByteArray) (l : List Nat) : Bool := l.all fun i => decide (rcount f i = 1)
theorem ringsF_mem {nx : Nat → Option Nat} : ∀ k, ∀ l ∈ ringsF nx k, ∃ s, s < k ∧ l = way nx s ∧ onRb nx s = true := by
  intro k
  induction k with
  | zero => intro l h; simp [ringsF] at h
  | succ k ih =>
    intro l h
    by_cases hc : onRb nx k = true ∧ k ∉ (ringsF nx k).flatten
    · rw [ringsF_yes hc.1 hc.2, List.mem_append] at h
      rcases h with h | h
      · obtain ⟨s, h1, h2⟩ := ih l h; exact ⟨s, by omega, h2⟩
      · simp at h; exact ⟨k, by omega, h, hc.1⟩
    · rw [ringsF_no hc] at h
      obtain ⟨s, h1, h2⟩ := ih l h; exact ⟨s, by omega, h2⟩
theorem all_eq {α : Type _} {p q : α → Bool} : ∀ (l : List α), (∀ i ∈ l, p i = q i) → l.all p = l.all q
  | [], _ => rfl
  | a :: l, h => by rw [List.all_cons, List.all_cons, h a (by simp), all_eq l fun i hi => h i (by simp [hi])]
theorem shut_iff {f : Nat → ByteArray} (hf : SV f) {l : List Nat} (hl : l ∈ ringsF (nxT f) 9) : shut f l = shut1 f l := by
  obtain ⟨s, hs, rfl, hon⟩ := ringsF_mem 9 l hl
  unfold shut shut1
  have h : ∀ i ∈ way (nxT f) s, decide (rcount f i ≤ 1) = decide (rcount f i = 1) := fun i hi => by
    rw [decide_eq_decide]; exact ring_one hf (by omega) hon hi
  exact all_eq _ h
theorem closed_take {f : Nat → ByteArray} {l : List Nat} {j : Nat} (hj : j < l.length) : shut1 f (l.take (j + 1)) = (shut1 f (l.take j) && decide (rcount f l[j] = 1)) := by
  unfold shut1
  rw [take_snoc l j hj, List.all_append]; simp
def closedT (f : Nat → ByteArray) (rs : List (List Nat)) : List ByteArray := (rs.filter (shut1 f)).map txt
theorem closedT_yes {f : Nat → ByteArray} {rs : List (List Nat)} {l : List Nat} (h : shut1 f l = true) : closedT f (rs ++ [l]) = closedT f rs ++ [txt l] := by simp [closedT, h]
theorem closedT_no {f : Nat → ByteArray} {rs : List (List Nat)} {l : List Nat} (h : shut1 f l = false) : closedT f (rs ++ [l]) = closedT f rs := by simp [closedT, h]
theorem closedT_len {f : Nat → ByteArray} (rs : List (List Nat)) : (closedT f rs).length ≤ rs.length := by
  unfold closedT; rw [List.length_map]; exact List.length_filter_le _ _
def closedB (xs : List Mv) : List ByteArray := if mvalid xs then closedT (tabOf xs) (ringsF (nxT (tabOf xs)) 9) else []
theorem closedB_len (xs : List Mv) : (closedB xs).length ≤ 1000 := by
  unfold closedB
  by_cases h : mvalid xs = true
  · rw [if_pos h]
    have h1 := (ringsF_lt (nice (SV_tab (by simpa [mvalid] using h))) 9 (by omega)).2.1
    have h2 := closedT_len (f := tabOf xs) (ringsF (nxT (tabOf xs)) 9)
    omega
  · rw [if_neg h]; simp
end Go.PW
namespace Go.Proofs.YthgcoocgeekdnaaGreatDoor
open Go.RowKit Go.PM Go.PW Go.Lib

theorem app_strL {ops : Array Oper} {rest : List Oper} {o : Oper} {a : Act} {Q : Exit → Act → World → Prop} {w : World} (hgd : o.guard = none) (s x : Operand)
    (ho : o.op = .call { callee := .builtin .append, args := #[s, x], argTypes := #[23, 23] })
    (base : Nat) (v : Value) (ys : List ByteArray) (m : ByteArray) (ad : Addr) (c : Nat) (hs : a.eval s = v) (hx : a.eval x = .slice (some ad) 1 c)
    (hown : w.ownsRow base 9 1 v ys.length (tcells ys)) (hnew : ∀ j u, [Value.string m][j]? = some u → w.cell? (ad.add j) = some u)
    (hlen : ys.length ≤ 1048576) (hbase : base ≤ w.heap.size)
    (h : ∀ v' w', w'.ownsRow base 9 1 v' (ys ++ [m]).length (tcells (ys ++ [m])) → w.grownBy w' v.ownBlock → (∀ g, v'.ownBlock = some g → v.ownBlock = some g ∨ g = w.heap.size) → wpList Tryz.prog ops Q rest (a.put o.dst v') w') : wpList Tryz.prog ops Q (o :: rest) a w := by
  obtain ⟨i0, hi0, hz0, hz1, hz2⟩ := info_parts infoStr
  refine wpList_append_lies w hgd s x _ ho base 9 i0 _ 1 16 Tryz.underlying23 hi0 hz0 hz1 hz2 rfl (by omega) v ys.length (tcells ys) hs hown ad 1 c [Value.string m] hx rfl hnew
    (by intro u hu; simp at hu; subst hu; rfl) (by omega) (by simp only [maxLen]; omega) (by omega) hbase _ rfl ?_
  intro g cap w' h2 h3 h4 _
  refine h _ w' ?_ h3 (fun g' e => by cases e; exact h4)
  rw [tcells_append, List.length_append]
  simpa [tcells] using h2
set_option maxRecDepth 100000 in
set_option maxHeartbeats 1600000 in
theorem l3Closed_c (xs : List Mv) (h1 : MV xs) (v : Value) (w : World) (hx : RdM w v xs) :
    Calls Tryz.prog 85 #[v] w fun e w' => ∃ v', e = .returned v' ∧ w'.ownsRow w.heap.size 9 1 v' (closedT (tabOf xs) (ringsF (nxT (tabOf xs)) 9)).length (tcells (closedT (tabOf xs) (ringsF (nxT (tabOf xs)) 9))) ∧ Below w.heap.size w w' := by
  have hf := SV_tab h1
  have hn := nice hf
  have HL := Lib.hid (fun W (hW : RdM W v xs) => l3Rings_c xs h1 v W hW)
  have HX := Lib.hid (fun W (hW : Below w.heap.size w W) => hx.below hW)
  have HRD := Lib.hid (fun W (hW : RdM W v xs) (i : Nat) => show Calls Tryz.prog 100 #[v, .string (sn i)] W fun e w' => e = .returned (.string (namesW (rdH (tabOf xs) (sn i)))) ∧ Below W.heap.size W w' from by
    have := l1Readers_c xs v (sn i) W hW
    rwa [rsH_rdH h1] at this)
  have HRC : Hid (∀ i, rcount (tabOf xs) i = (namesW (rdH (tabOf xs) (sn i))).size) := fun _ => rfl
  have hE := World.ownsRow_lit (e := 9) (base := w.heap.size) (size := 1) w #[] 0 (Nat.le_refl _) (Nat.zero_le _) rfl
  have hlt9 := ringsF_lt hn 9 (by omega)
  have HWL : Hid (∀ l ∈ ringsF (nxT (tabOf xs)) 9, l.length ≤ 19) := fun l hl => by
    obtain ⟨s, hs, rfl, _⟩ := ringsF_mem 9 l hl
    exact (way_rho hn (by omega)).len
  have HRT : Hid (ringsT (nxT (tabOf xs)) 9 = (ringsF (nxT (tabOf xs)) 9).map txt) := rfl
  clear hf hn
  generalize tabOf xs = f at *
  generalize hrs : ringsF (nxT f) 9 = rs at *
  generalize ringsT (nxT f) 9 = rt at *
  go_enter Tryz.func85, Tryz.ntmps85
  go_wp2_with fail
  refine (HL.out _ (HX.out _ ((Below.refl _ _).alloc (Nat.le_refl _) _))).mono ?_
  rintro e w1 ⟨v', rfl, ho, hb1⟩
  have hb1w : Below w.heap.size w w1 := ((Below.refl _ _).alloc (Nat.le_refl _) _).trans (hb1.mono (by simp))
  have hE1 := own_keep hE hb1
  have hge : ∀ g, v'.ownBlock = some g → w.heap.size + 1 ≤ g := fun g e => by have := own_block_ge ho g e; simpa using this
  have hs1 := hb1w.size
  have hr1 : RdT w1 v' rt := Rd.of_own ho
  rw [HRT.out] at hr1
  obtain ⟨A, cap, rfl, hn1, hc1, hcell⟩ := hr1.open
  have hcel : ∀ k (hk : k < rs.length), ∃ b off, A = some ⟨b, off, none⟩ ∧ b < w1.heap.size ∧ w1.cell? ⟨b, off + k, none⟩ = some (.string (txt rs[k])) := fun k hk => by
    have := hcell k (by simpa using hk)
    simpa using this
  rw [List.length_map] at hn1 hc1
  have HBG : Hid (∀ b off, A = some ⟨b, off, none⟩ → rs.length ≠ 0 → w.heap.size + 1 ≤ b) := fun b off e hne => by
    rcases ho.2 with ⟨h0, _⟩ | ⟨g, cap', cur, h0, _⟩
    · injection h0 with e1 _ _
      rw [e1] at e; cases e
    · injection h0 with e1 _ _
      rw [e1] at e
      cases e
      exact hge _ (by rw [e1]; rfl)
  clear hr1 ho hb1 hcell hge
  have hlen : (rs.map txt).length = rs.length := List.length_map ..
  rw [hlen]
  go_wp2
  go_loopw [3, 5, 6, 7, 12] (fun o _ _ _ i wr => ∃ (k : Nat), k ≤ rs.length ∧ i = .int .i64 k ∧ wr.ownsRow w.heap.size 9 1 o (closedT f (rs.take k)).length (tcells (closedT f (rs.take k))) ∧ Hid (∀ g, o.ownBlock = some g → g < w.heap.size + 1 ∨ w1.heap.size ≤ g) ∧ Below w.heap.size w wr ∧ KeepsNew (w.heap.size + 1) w1 wr) (fun _ _ _ _ i _ => rs.length - (RowKit.intOf i).toNat)
  case atStart => exact ⟨0, by omega, rfl, hE1, (fun g e => by cases e; exact .inl (Nat.lt_succ_self _)), hb1w, KeepsNew.refl _ _⟩
  case round =>
    obtain ⟨k, hk, rfl, ho, HOB, hbw, hkn⟩ := hrel
    have hbs := hkn.size
    have hbws := hbw.size
    by_cases hlt : k < rs.length
    · obtain ⟨b, off, rfl, hbl, hc⟩ := hcel k hlt
      have hbge := HBG.out b off rfl (by omega)
      have hbl2 : b < wr.heap.size := by omega
      have hd : wr.cell? ⟨b, off + k, none⟩ = some (.string (txt rs[k])) := by
        rw [← hc]; unfold World.cell?; rw [hkn.same b hbge hbl]
      have hl19 := HWL.out rs[k] (List.getElem_mem hlt)
      have hlt19 : ∀ i ∈ rs[k], i < 19 := fun i hi => hlt9.1 i (List.mem_flatten.2 ⟨rs[k], List.getElem_mem hlt, hi⟩)
      have hle := closedT_len (f := f) (rs.take k)
      rw [List.length_take] at hle
      have hrl : rs.length ≤ 9 := hlt9.2.1
      have HY := Lib.hid (fun (h : shut1 f rs[k] = true) => closedT_yes (f := f) (rs := rs.take k) (l := rs[k]) h)
      have HN := Lib.hid (fun (h : shut1 f rs[k] = false) => closedT_no (f := f) (rs := rs.take k) (l := rs[k]) h)
      have HTK := Lib.hid (take_snoc rs k hlt)
      clear hc hcel
      generalize rs[k] = r at *
      have htz := txt_size r
      have hcz : (txt r).size = r.length := htz
      have HEX : Hid (∀ j (hj : j < r.length), (txt r).extract j (j + 1) = sn r[j]) := fun j hj => by
        rw [extract_one _ _ (by rw [hcz]; exact hj), txt_list, List.getD_eq_getElem?_getD, List.getElem?_map, List.getElem?_eq_getElem hj]; rfl
      have HCT := Lib.hid (fun j (hj : j < r.length) => closed_take (f := f) (l := r) (j := j) hj)
      have HALL : Hid (r.take r.length = r) := List.take_length
      generalize htr : txt r = t at *
      have HTR := Lib.hid htr
      clear htr
      go_wp2
      rename World => wo
      go_loopw [6, 7, 18] (fun cl _ i W => ∃ (j : Nat), j ≤ r.length ∧ i = .int .i64 j ∧ cl = .bool (shut1 f (r.take j)) ∧ Below wo.heap.size wo W) (fun _ _ i _ => r.length - (RowKit.intOf i).toNat)
      case atStart => exact ⟨0, by omega, rfl, rfl, Below.refl _ _⟩
      case round =>
        obtain ⟨j, hj, rfl, rfl, hbi⟩ := hrel
        have hbis := hbi.size
        have hbiw := hbw.trans (hbi.mono hbws)
        have hbiws := hbiw.size
        by_cases hjl : j < r.length
        · have hex := HEX.out j hjl
          have hct := HCT.out j hjl
          rcases Bool.eq_false_or_eq_true (shut1 f (r.take j)) with hsh | hsh
          · have hxr := HX.out _ hbiw
            have hrd := HRD.out _ hxr r[j]
            have hrc := HRC.out r[j]
            rw [hsh, Bool.true_and] at hct
            generalize namesW (rdH f (sn r[j])) = q at *
            have HRX := Lib.hid hrd
            have HC2 := Lib.hid hct
            have HR2 := Lib.hid hrc
            clear hrd hct hrc hxr
            rw [hsh]
            generalize sn r[j] = sr at *
            by_cases hq : q.size = 1
            · have hqq : ((q.size : Int) == 1) = true := by rw [hq]; rfl
              have HF : Hid (shut1 f (r.take (j + 1)) = true) := by show _ = _; rw [HC2.out, HR2.out]; simpa using hq
              clear hq hsh
              go_wp2_with fail
              refine HRX.out.mono ?_
              rintro e w4 ⟨rfl, hb4⟩
              have hbi4 := hbi.trans (hb4.mono hbis)
              clear hb4
              go_wp2
              go_roundw
              case rel => exact ⟨j + 1, by omega, by go_num, by rw [HF.out], hbi4⟩
              case measure => simp [RowKit.intOf]; omega
            · have hqq : ((q.size : Int) == 1) = false := by simp; omega
              have HF : Hid (shut1 f (r.take (j + 1)) = false) := by show _ = _; rw [HC2.out, HR2.out]; simpa using hq
              clear hq hsh
              go_wp2_with fail
              refine HRX.out.mono ?_
              rintro e w4 ⟨rfl, hb4⟩
              have hbi4 := hbi.trans (hb4.mono hbis)
              clear hb4
              go_wp2
              go_roundw
              case rel => exact ⟨j + 1, by omega, by go_num, by rw [HF.out], hbi4⟩
              case measure => simp [RowKit.intOf]; omega
          · rw [hsh, Bool.false_and] at hct
            have HF := Lib.hid hct
            clear hct
            rw [hsh]
            clear hsh
            go_wp2
            go_roundw
            case rel => exact ⟨j + 1, by omega, by go_num, by rw [HF.out], hbi⟩
            case measure => simp [RowKit.intOf]; omega
        · have hj' : j = r.length := by omega
          subst hj'
          rw [HALL.out]
          have hb5 := hbw.trans (hbi.mono hbws)
          have hk5 : KeepsNew (w.heap.size + 1) w1 wr := hkn.trans (KeepsNew.below hbi)
          have hk5s := hk5.size
          have ho5 := own_keep ho hbi
          rcases Bool.eq_false_or_eq_true (shut1 f r) with hsh | hsh
          · have hyy := HY.out hsh
            rw [← HTK.out] at hyy
            have HF := Lib.hid hyy
            rw [hsh]
            have hnw := one_new wr (.string t) 9
            have hown0 := own_keep ho5 ((Below.refl _ _).alloc (Nat.le_refl _) (.cells #[.string t] 9))
            clear hyy hsh
            go_wp2_with (at_builtin; refine app_strL rfl (.tmp 35) (.tmp 37) rfl w.heap.size u3 (closedT f (rs.take k)) t ⟨wr.heap.size, 0, none⟩ 1 (by rfl) (by rfl) hown0 hnw (by omega) (by simp; omega) ?_; intro v' w3 hown3 hgrow3 hlies3)
            have hb3 := below_grown hgrow3 (B := w.heap.size) (by have := hb5.size; simp; omega) (own_block_ge ho5)
            have hk6 : KeepsNew (w.heap.size + 1) w1 w3 := ⟨by have := hgrow3.size; simp at this; omega, fun x hx1 hx2 => by
              rw [hgrow3.block x (by simp; omega) (fun e => by have := HOB.out x e.symm; omega), Below.heap_alloc _ _ _ (by omega)]
              exact hk5.same x hx1 hx2⟩
            have HOB3 : Hid (∀ g, Value.ownBlock v' = some g → g < w.heap.size + 1 ∨ w1.heap.size ≤ g) := fun g e => by
              rcases hlies3 g e with h | h
              · exact HOB.out g h
              · right; simp at h; omega
            clear hlies3
            go_roundw
            case rel =>
              refine ⟨k + 1, by omega, by go_num, ?_, HOB3, (hb5.alloc hb5.size _).trans hb3, hk6⟩
              rw [HF.out]; exact hown3
            case measure => simp [RowKit.intOf]; omega
          · have hnn := HN.out hsh
            rw [← HTK.out] at hnn
            have HF := Lib.hid hnn
            rw [hsh]
            clear hnn hsh
            go_wp2
            go_roundw
            case rel => exact ⟨k + 1, by omega, by go_num, by rw [HF.out]; exact ho5, HOB, hb5, hk5⟩
            case measure => simp [RowKit.intOf]; omega
    · have hk' : k = rs.length := by omega
      have ho2 := ho
      rw [hk', List.take_of_length_le (Nat.le_refl _)] at ho2
      clear hk' ho
      go_wp2
      go_ret
      exact ⟨_, rfl, ho2, hbw⟩

theorem spClosedRings_c (xs : List Mv) (v : Value) (w : World) (hx : RdM w v xs) (hz : ∀ m ∈ xs, m.1.size ≤ 9223372036854775807 ∧ m.2.size ≤ 9223372036854775807) (hn' : xs.length ≤ 1048576) :
    Calls Tryz.prog 71 #[v] w fun e w' => ∃ v', e = .returned (.tuple #[v', .bool (mvalid xs)]) ∧ w'.ownsRow w.heap.size 9 1 v' (closedB xs).length (tcells (closedB xs)) ∧ Below w.heap.size w w' := by
  rcases Bool.eq_false_or_eq_true (mvalid xs) with h1 | h1
  · rw [h1, show closedB xs = closedT (tabOf xs) (ringsF (nxT (tabOf xs)) 9) from if_pos h1]
    have HL := Lib.hid (fun W (hW : RdM W v xs) => l3Closed_c xs (by simpa [mvalid] using h1) v W hW)
    go_enter Tryz.func71, Tryz.ntmps71
    go_wp2_with fail
    refine (spMovesValid_c xs v _ hx hz hn').mono ?_
    rintro e w1 ⟨he, hb1⟩
    rw [h1] at he
    subst he
    have hs1 := hb1.size
    go_wp2_with fail
    refine (HL.out _ (hx.below hb1)).mono ?_
    rintro e w2 ⟨v', rfl, ho, hb2⟩
    have ho2 := own_more ho hs1
    go_wp2
    go_ret2
    exact ⟨_, rfl, ho2, hb1.trans (hb2.mono hs1)⟩
  · rw [h1, show closedB xs = [] from if_neg (by rw [h1]; decide)]
    go_enter Tryz.func71, Tryz.ntmps71
    go_wp2_with fail
    refine (spMovesValid_c xs v _ hx hz hn').mono ?_
    rintro e w1 ⟨he, hb1⟩
    rw [h1] at he
    subst he
    have hs1 := hb1.size
    have hE := World.ownsRow_lit (e := 9) (base := w.heap.size) (size := 1) w1 #[] 0 hs1 (Nat.zero_le _) rfl
    go_wp2
    go_ret2
    exact ⟨_, rfl, hE, by (repeat' (first | (with_reducible exact Below.refl _ _) | (with_reducible assumption) | (with_reducible refine Below.alloc ?_ ?_ _) | (with_reducible refine Below.drew ?_) | (with_reducible refine Below.setCell ?_ ?_ _) | (with_reducible exact Nat.le_refl _) | omega | ((repeat (first | rewrite [World.size_alloc] | rewrite [World.size_setCell] | rewrite [World.size_drew])); omega) | (simp; omega) | (simp; done)))⟩
end Go.Proofs.YthgcoocgeekdnaaGreatDoor
namespace Go.PM
section
variable {F : Fence} {n : Nat} {P : Program} {b : Frame} {a : Act} {k : List Item} {cs : List Frame} {w : World} {Q : Exit → Act → World → Prop}
theorem stepR_scope {c : Code} : step P (lone (b.atR a (.code (.scope c) :: k)) cs w) = .next (lone (b.atR a (.code c :: .inScope c :: k)) cs w) :=
  step_lone_go (by simp [stepG, stepG.exec, Frame.atR])
theorem stepR_inScope {c : Code} : step P (lone (b.atR a (.inScope c :: k)) cs w) = .next (lone (b.atR a k) cs w) :=
  step_lone_go (by simp [stepG, stepG.exec, Frame.atR])
/-- a scope through which the run goes without a goto, inside a fence -/
theorem wpIn_scope {c : Code} (h : c.wpIn F n P (Exit.noGoto Q) a w) : (Code.scope c).wpIn F n P Q a w := by
  intro b k cs hro hb hr
  have h0 : (lone (b.atR a (.code (.scope c) :: k)) cs w).fenced P F := fenced_calm hb hr rfl
  obtain ⟨e, a₁, w₁, hq, harr⟩ := h b (.inScope c :: k) cs hro hb hr
  cases e with
  | normal => exact ⟨.normal, a₁, w₁, hq, .head h0 stepR_scope (StepsIn.trans harr (.one (fenced_calm hb hr rfl) stepR_inScope))⟩
  | exit id' =>
    have hx : exitTo id' (.inScope c :: k) = exitTo id' k := by simp [exitTo]
    exact ⟨.exit id', a₁, w₁, hq, fun k' hk => .head h0 stepR_scope (harr.1 k' (by rw [hx]; exact hk)),
      fun hr' hk => let ⟨k₁, h1, h2⟩ := harr.2 hr' (by rw [hx]; exact hk); ⟨k₁, h1, .head h0 stepR_scope h2⟩⟩
  | goto l => exact hq.elim
  | ret => exact ⟨_, a₁, w₁, hq, .of_steps (.one h0 stepR_scope) harr⟩
  | panic ch => exact ⟨_, a₁, w₁, hq, .of_steps (.one h0 stepR_scope) harr⟩
  | outgrown => exact ⟨_, a₁, w₁, hq, .of_steps (.one h0 stepR_scope) harr⟩
end
end Go.PM
namespace Go.PW
open Go.RowKit Go.PM
def closedS (f : Nat → ByteArray) (rs : List (List Nat)) : List ByteArray := (rs.filter (shut f)).map txt
theorem closedS_yes {f : Nat → ByteArray} {rs : List (List Nat)} {l : List Nat} (h : shut f l = true) : closedS f (rs ++ [l]) = closedS f rs ++ [txt l] := by simp [closedS, h]
theorem closedS_no {f : Nat → ByteArray} {rs : List (List Nat)} {l : List Nat} (h : shut f l = false) : closedS f (rs ++ [l]) = closedS f rs := by simp [closedS, h]
theorem closedS_len {f : Nat → ByteArray} (rs : List (List Nat)) : (closedS f rs).length ≤ rs.length := by
  unfold closedS; rw [List.length_map]; exact List.length_filter_le _ _
theorem closedS_T {f : Nat → ByteArray} (hf : SV f) : closedS f (ringsF (nxT f) 9) = closedT f (ringsF (nxT f) 9) := by
  unfold closedS closedT
  congr 1
  exact List.filter_congr fun l hl => shut_iff hf hl
theorem shut_take {f : Nat → ByteArray} {l : List Nat} {j : Nat} (hj : j < l.length) : shut f (l.take (j + 1)) = (shut f (l.take j) && decide (rcount f l[j] ≤ 1)) := by
  unfold shut
  rw [take_snoc l j hj, List.all_append]; simp
theorem shut_bad {f : Nat → ByteArray} {l : List Nat} {j : Nat} (hj : j < l.length) (h : ¬ rcount f l[j] ≤ 1) : shut f l = false := by
  unfold shut
  rw [List.all_eq_false]
  exact ⟨l[j], List.getElem_mem hj, by simpa using h⟩
end Go.PW
namespace Go.Proofs.YthgcoocgeekdnaaGreatDoor
open Go.RowKit Go.PM Go.PW Go.Lib
attribute [local go_sem] Oper.semAt_some

set_option maxRecDepth 100000 in
set_option maxHeartbeats 2000000 in
theorem imClosedRings_c (xs : List Mv) (v : Value) (w : World) (hx : RdM w v xs) :
    Calls Tryz.prog 82 #[v] w fun e w' => ∃ v', e = .returned (.tuple #[v', .bool (mvalid xs)]) ∧ w'.ownsRow w.heap.size 9 1 v' (closedB xs).length (tcells (closedB xs)) ∧ Below w.heap.size w w' := by
  by_cases h1 : MV xs
  · have HT := Lib.hid (tableOf_yes xs h1 v w hx)
    have hm1 : mvalid xs = true := by simpa [mvalid] using h1
    have HM := Lib.hid hm1
    have HS := Lib.hid (show closedB xs = closedS (tabOf xs) (ringsF (nxT (tabOf xs)) 9) by rw [closedB, if_pos hm1, closedS_T (SV_tab h1)])
    have hlt9 := ringsF_lt (nice (SV_tab h1)) 9 (by omega)
    have HRC : Hid (∀ i, rcount (tabOf xs) i = (namesW (rdH (tabOf xs) (sn i))).size) := fun _ => rfl
    have hn := nice (SV_tab h1)
    have HSP := Lib.hid (fun W => spotsOf_c (tabOf xs) (SV_tab h1) W)
    have HLE := Lib.hid (fun k (hk : k ≤ 9) => (ringsF_lt hn k hk).2.1)
    clear h1 hx hm1
    generalize nxT (tabOf xs) = nx at *
    generalize tabOf xs = t at *
    refine (callsIn_wide (n := 5)).1 ?_
    refine callsIn_of_wp_marks Tryz.func82 rfl trivial ?_ rfl
    simp only [Tryz.ntmps82, List.size_toArray, List.length_cons, List.length_nil, Nat.reduceAdd, Nat.reduceSub, Array.replicate_succ, Array.replicate_zero, List.push_toArray, List.append_toArray, List.nil_append, List.cons_append]
    gi_wp2_with fail
    refine wpIn_scope ?_
    gi_wp2_with fail
    refine ⟨trivial, callsIn_wide.2 (HT.out.mono ?_)⟩
    rintro e w1 ⟨rfl, hb1⟩
    have hs1 := hb1.size
    gi_wp2
    obtain ⟨W0, hW0⟩ : ∃ W0 : World, W0 = (w1.alloc (.cells (tabA t) 118)).alloc (.cells #[.slice none 0 0] 23) := ⟨_, rfl⟩
    have hS0 : W0.heap.size = w1.heap.size + 2 := by rw [hW0]; simp only [World.size_alloc]
    have hB0 : Below w.heap.size w W0 := by rw [hW0]; (repeat' (first | (with_reducible exact Below.refl _ _) | (with_reducible assumption) | (with_reducible refine Below.alloc ?_ ?_ _) | (with_reducible refine Below.drew ?_) | (with_reducible refine Below.setCell ?_ ?_ _) | (with_reducible exact Nat.le_refl _) | omega | ((repeat (first | rewrite [World.size_alloc] | rewrite [World.size_setCell] | rewrite [World.size_drew])); omega) | (simp; omega) | (simp; done)))
    have hA0 : At W0 (w1.heap.size + 1) 23 #[.slice none 0 0] := by
      rw [hW0]; have := At.new (w1.alloc (.cells (tabA t) 118)) 23 #[.slice none 0 0]
      rwa [World.size_alloc] at this
    have hT0 : At W0 w1.heap.size 118 (tabA t) := by rw [hW0]; exact (At.new _ _ _).alloc _
    refine wpIn_label ?_
    gi_wp2_with fail
    refine ⟨trivial, callsIn_wide.2 ?_⟩
    rw [← hW0]
    clear hW0
    refine (HSP.out W0).mono ?_
    rintro e W1 ⟨⟨bs, rfl, hbs, hSW⟩, hb2⟩
    have hA1 := hA0.keep hb2
    have hT1 := hT0.keep hb2
    have hB1 : Below w.heap.size w W1 := hB0.trans (hb2.mono hB0.size)
    have hS1 := hb2.size
    have hbl := hSW.lt
    clear hA0 hb2 hB0
    gi_wp2
    refine range_law5 (F := Fence.wide) (gf := 96) (lf := #[.pointer (some ⟨bs, 0, none⟩)]) (lb := #[]) rfl (by decide) rfl trivial (fun args w => rfl) (encs := fun r : List Nat => #[.string (txt r)]) (xs := ringsF nx 9) (κ := 3)
      (rings_iter bs nx hn) (fun _ => rfl)
      (fun pre W => ∃ o, At W (w1.heap.size + 1) 23 #[o] ∧ W.ownsRow (W1.heap.size + 5) 9 1 o (closedS t pre).length (tcells (closedS t pre)) ∧ Spots W bs nx ∧ Below w.heap.size w W ∧ At W w1.heap.size 118 (tabA t))
      (fun _ _ _ => False) ?pr ?iw ?own (fun _ => ownFrom_pure _ _) ?start ?a1 ?assign ?body ?done ?stop
    case pr => rintro pre A ⟨o, _, _, h, _, _⟩; exact h
    case iw =>
      rintro pre A A' r ⟨o, k1, k2, k3, k4, k5⟩ hr1 hr2 hg
      have hge := own_block_ge k2
      refine ⟨o, at_grown' k1 hg (fun e => by cases e; omega), own_grown k2 hg (.inl fun e => ?_), k3.of_at fun t' cs h => at_grown' h hg (fun e => by cases e; omega), k4.trans (below_grown hg k4.size (fun g e => by cases e; have := hB1.size; omega)), at_grown' k5 hg (fun e => by cases e; omega)⟩
      have := hge r e; omega
    case own =>
      rintro s A A' row ⟨o, k1, k2, k3, k4, k5⟩ hg hr
      exact ⟨o, at_turn' k1 hg (fun r e => (hr r e).2), own_turn' k2 hg (fun r e => (hr r e).2), k3.of_at fun t' cs h => at_turn' h hg (fun r e => (hr r e).2), k4.trans (below_grown hg k4.size (fun g e => by have := (hr g e).1; have := hB1.size; omega)), at_turn' k5 hg (fun r e => (hr r e).2)⟩
    case start => exact ⟨_, hA1, ⟨rfl, .inl ⟨rfl, rfl⟩⟩, hSW, hB1, hT1⟩
    case assign =>
      intro l p W Kc hK
      gi_wp2
      exact hK
    case body =>
      rintro l pre r W ⟨o, k1, k2, k3, k4, k5⟩ hp hsz
      have hrmem : r ∈ ringsF nx 9 := hp.mem (by simp)
      have hlt19 : ∀ i ∈ r, i < 19 := fun i hi => hlt9.1 i (List.mem_flatten.2 ⟨r, hrmem, hi⟩)
      have hlen : (closedS t pre).length ≤ 9 := by
        have h1 := hp.length_le
        have h2 := hlt9.2.1
        have h3 := closedS_len (f := t) pre
        simp at h1; omega
      have hrl : r.length ≤ 171 := by
        have h2 := hlt9.2.2
        obtain ⟨a, b, hab⟩ := List.append_of_mem hrmem
        rw [hab] at h2
        simp only [List.flatten_append, List.flatten_cons, List.length_append] at h2
        omega
      have HYES := Lib.hid (fun (h : shut t r = true) => closedS_yes (rs := pre) h)
      have HNO := Lib.hid (fun (h : shut t r = false) => closedS_no (rs := pre) h)
      have HST := Lib.hid (fun j (hj : j < r.length) => shut_take (f := t) hj)
      have HBAD := Lib.hid (fun j (hj : j < r.length) => shut_bad (f := t) hj)
      have HALL : Hid (r.take r.length = r) := List.take_length
      have htz := txt_size r
      have HEX : Hid (∀ j (hj : j < r.length), (txt r).extract j (j + 1) = sn r[j]) := fun j hj => by
        rw [extract_one _ _ (by rw [htz]; exact hj), txt_list, List.getD_eq_getElem?_getD, List.getElem?_map, List.getElem?_eq_getElem hj]; rfl
      clear hp hrmem
      generalize txt r = s at *
      gi_wp2
      gi_loopw [8, 22] (fun _ i A => ∃ (j : Nat), j ≤ r.length ∧ i = .int .i64 j ∧ Hid (shut t (r.take j) = true) ∧ Below W.heap.size W A) (fun _ i _ => r.length - (RowKit.intOf i).toNat)
      case atStart => exact ⟨0, by omega, rfl, rfl, Below.refl _ _⟩
      case round =>
        obtain ⟨j, hj, rfl, hsh, hbA⟩ := hrel
        have hbAs := hbA.size
        rename World => A
        have m1 := k1.keep hbA
        have m2 := own_keep k2 hbA
        have m3 := k3.below hbA
        have m4 := k4.trans (hbA.mono k4.size)
        have m5 := k5.keep hbA
        by_cases hjl : j < r.length
        · have hex := HEX.out j hjl
          have hrd := fun W' => readers_c t (sn r[j]) W'
          have hrc := HRC.out r[j]
          have hst := HST.out j hjl
          have hbad := HBAD.out j hjl
          rw [hsh.out, Bool.true_and] at hst
          generalize namesW (rdH t (sn r[j])) = q at *
          generalize sn r[j] = sr at *
          generalize rcount t r[j] = rc at *
          have HRX := Lib.hid hrd
          have hC := At.ext (W := A.drew) (B := A.heap.size) m5 m5.lt
          have hR : ∀ x : Ext A.heap.size A.drew, Calls Tryz.prog 97 #[tabX t, .string sr] x.val fun e w' => e = .returned (.string q) ∧ Below x.val.heap.size x.val w' := fun x => hrd x.val
          have i0 : (0 : Int) ≤ (j : Int) := by omega
          have i1 : (j : Int) < r.length := by omega
          have HST2 := Lib.hid hst
          have HBAD2 := Lib.hid hbad
          have HRC2 := Lib.hid hrc
          clear hst hbad hrc hrd
          gi_wp2
          refine region_quiet_inRound (F := Fence.wide) (C := fun w' => ∃ x : Ext A.heap.size A.drew, w' = x.val) rfl (by kernel_rfl) (by kernel_rfl) (by kernel_rfl) ⟨⟨_, Below.refl _ _⟩, rfl⟩ ?_
          simp only
          refine rowIn_step rfl 118 (.tmp 4) rfl w1.heap.size 118 (tabA t) (by rfl) hC 9 9 Tryz.underlying118 (by kernel_rfl) ?_
          simp only [Act.put, List.setIfInBounds_toArray, List.set_cons_succ, List.set_cons_zero]
          gi_big_quiet_step (fail)
          gi_big_quiet_step (fail)
          gi_big_quiet_step (fail)
          gi_big_quiet_step (fail)
          gi_big_quiet_step (fail)
          (refine BigFrame.wpQuietIn_want (fun _ _ _ _ => trivial) rfl (fun K hK => ?_); gi_big_quiet_op; refine ⟨_, fun _ => callsIn_wide.2 (ext_call _ (Nat.le_refl _) (hR _)), hK _ ?_⟩; clear hK K)
          gi_big_quiet_step (fail)
          gi_big_quiet_step (fail)
          refine wpQuietIn_nil ?_
          rintro A2 ⟨xw, rfl⟩
          have hb2 : Below A.heap.size A xw.val := ((Below.refl _ _).drew).trans xw.property
          clear hC hR
          generalize xw.val = A2 at *
          by_cases hq : q.size ≤ 1
          · have hq2 : ¬ (1 : Int) < (q.size : Int) := by omega
            have hsh2 : Hid (shut t (r.take (j + 1)) = true) := by show _ = _; rw [HST2.out, HRC2.out]; simpa using hq
            have hbA2 := hbA.trans (hb2.mono hbAs)
            clear m1 m2 m3 m4 m5 hq
            gi_wp2
            go_roundw
            case rel => exact ⟨j + 1, by omega, by go_num, hsh2, hbA2⟩
            case measure => simp [RowKit.intOf]; omega
          · have hq2 : (1 : Int) < (q.size : Int) := by omega
            have hbd := HBAD2.out (by rw [HRC2.out]; exact hq)
            have hno := HNO.out hbd
            have HF := Lib.hid hno
            have hbA2 := hbA.trans (hb2.mono hbAs)
            have n1 := m1.keep hb2
            have n2 := own_keep m2 hb2
            have n3 := m3.below hb2
            have n4 := m4.trans (hb2.mono m4.size)
            have n5 := m5.keep hb2
            clear m1 m2 m3 m4 m5 hq hbd hno k1 k2 k3 k4 k5
            gi_wp2
            exact ⟨keepsFrom_below hbA2, (KeepsNew.below (B := W1.heap.size + 2) hbA2).toIn (Nat.le_refl _) (by omega), _, n1, by rw [HF.out]; exact n2, n3, n4, n5⟩
        · have hjr : j = r.length := by omega
          subst hjr
          have hall := hsh.out
          rw [HALL.out] at hall
          have HY := Lib.hid (HYES.out hall)
          clear hall hsh
          have hsA : W1.heap.size + 5 ≤ A.heap.size := by omega
          have c3 : A.cell? ⟨w1.heap.size + 1, 0, none⟩ = some o := m1.cell 0
          have hl1 := m1.lt
          have hnw := one_new A (.string s) 9
          have hzw := hB1.size
          generalize closedS t pre = ys at *
          gi_wp2_with (gi_at_builtin; refine held ?_)
          unfold Held
          refine appIn_str rfl (.tmp 35) (.tmp 37) rfl (W1.heap.size + 5) o ys s ⟨A.heap.size, 0, none⟩ 1 (by rfl) (by rfl) (own_keep m2 ((Below.refl _ _).alloc (Nat.le_refl _) _)) hnw (by omega) (by simp; omega) ?_
          intro o' W3 hown3 hgrow3
          have j1 : At W3 (w1.heap.size + 1) 23 #[o] := at_grown' (m1.alloc (.cells #[.string s] 9)) hgrow3 (own_box_ne' m2 m1 (by decide))
          have d1 := j1.cell 0
          have d2 := j1.frozen 0
          have hge := own_block_ge m2
          have hK3 : KeepsFrom W1.heap.size A W3 := by
            refine ⟨Nat.le_trans (by simp) hgrow3.size, fun x ob hx1 hx2 hx3 => ?_⟩
            have hx4 := (Array.getElem?_eq_some_iff.1 hx2).1
            refine (hgrow3.block x (by simp; omega) (fun e => ?_)).trans ((Below.heap_alloc _ _ _ hx4).trans hx2)
            rcases m2.2 with ⟨rfl, _⟩ | ⟨g, cap, cur, rfl, _, hh, _⟩
            · cases e
            · cases e
              rw [hh] at hx2
              cases hx2
              cases hx3
          have hI3 : KeepsIn (W1.heap.size + 2) 3 A W3 := by
            refine ⟨Nat.le_trans (by simp) hgrow3.size, fun x hx1 hx2 => ?_⟩
            refine (hgrow3.block x (by simp; omega) (fun e => ?_)).trans (Below.heap_alloc _ _ _ (by omega))
            have := hge x e.symm
            omega
          have hKA : KeepsFrom W1.heap.size W W3 := (keepsFrom_below hbA).trans hK3
          have hIA : KeepsIn (W1.heap.size + 2) 3 W W3 := ⟨Nat.le_trans hbAs hI3.size, fun x hx1 hx2 => (hI3.same x hx1 hx2).trans (hbA.block x (by omega))⟩
          have hSP3 : Spots W3 bs nx := m3.of_at fun t' cs h => at_grown' (h.alloc (.cells #[.string s] 9)) hgrow3 (fun e => by have := hge bs e.symm; omega)
          have hT3 : At W3 w1.heap.size 118 (tabA t) := at_grown' (m5.alloc (.cells #[.string s] 9)) hgrow3 (fun e => by have := hge _ e.symm; omega)
          have hB3 : Below w.heap.size w W3 := (m4.alloc m4.size _).trans (below_grown hgrow3 (by have := m4.size; simp; omega) (fun g e => by have := hge g e; omega))
          have hne3 := own_box_ne' hown3 j1 (by decide)
          have hpn : (ys ++ [s]).length = ys.length + 1 := by simp
          rw [hpn] at hown3
          obtain ⟨A3, cap3, rfl, _⟩ := Rd.of_own hown3
          have q1 : At (W3.setCell ⟨w1.heap.size + 1, 0, none⟩ (.slice A3 (ys.length + 1) cap3)) (w1.heap.size + 1) 23 #[.slice A3 (ys.length + 1) cap3] := j1.set 0 _
          have qS : Spots (W3.setCell ⟨w1.heap.size + 1, 0, none⟩ (.slice A3 (ys.length + 1) cap3)) bs nx := hSP3.of_at fun t' cs h => h.far (by show bs ≠ w1.heap.size + 1; omega) _
          have qT := hT3.far (p := ⟨w1.heap.size + 1, 0, none⟩) (by show w1.heap.size ≠ w1.heap.size + 1; omega) (.slice A3 (ys.length + 1) cap3)
          clear hnw c3 k1 k2 k3 k4 k5 m1 m2 m3 m4 m5 hgrow3 hge hSP3 hK3 hI3
          gi_wp2
          refine ⟨hKA.trans ((KeepsOthers.setCell _ _ _).from _), ⟨by simp [World.size_setCell]; exact hIA.size, fun x hx1 hx2 => (heap_setCell_other _ _ _ _ (by simp; omega)).trans (hIA.same x hx1 hx2)⟩, _, q1, ?_, qS, hB3.setCell (by simp; omega) _, qT⟩
          rw [HY.out, hpn]
          exact hown3.kept (grownBy_setCell' W3 (w1.heap.size + 1) _) (.inr hne3.symm)
    case done =>
      intro D W hD hI hd
      obtain ⟨o, k1, k2, k3, k4, k5⟩ := hI
      have c3 : W.cell? ⟨w1.heap.size + 1, 0, none⟩ = some o := k1.cell 0
      have hown := own_more k2 (show w.heap.size ≤ W1.heap.size + 5 by have := hB1.size; omega)
      have hzw := hB1.size
      clear k1 k2 k3 k5
      gi_wp2
      refine ⟨by simp, .inl ⟨D, _, rfl, run_takeDeferred hd, ?_⟩⟩
      have hW2 : (W.putObj D (.deferred none)).ownsRow w.heap.size 9 1 o (closedB xs).length (tcells (closedB xs)) := by
        rw [HS.out]
        exact own_turn' hown (grownBy_putObj' W D _) (fun r e => by cases e; exact ⟨_, hd, rfl⟩)
      have hR : ∀ tmps : Array Value, tmps.getD 2 undef = o → tmps.getD 3 undef = .bool true → (results Tryz.f82 tmps).run Tryz.prog (W.putObj D (.deferred none)) = .ok (.tuple #[o, .bool true]) (W.putObj D (.deferred none)) := fun tmps h2 h3 => by
        have h2' : tmps[2]?.getD undef = o := by simpa using h2
        have h3' : tmps[3]?.getD undef = .bool true := by simpa using h3
        simp [results, Tryz.results82, h2', h3']
      exact ⟨_, hR _ rfl rfl, _, by rw [HM.out], hW2, k4.trans ⟨rfl, rfl, rfl, by simp [World.putObj], fun k hk => World.putObj_heap_other (by have := k4.size; omega)⟩⟩
    case stop =>
      intro _ _ _ _ _ _ hf
      exact hf.elim
  · have hm0 : mvalid xs = false := by simpa [mvalid] using h1
    have HM := Lib.hid hm0
    have HS := Lib.hid (show closedB xs = [] from if_neg (by rw [hm0]; decide))
    have HT := Lib.hid (tableOf_no xs h1 v w hx)
    clear h1 hx hm0
    go_enter Tryz.func82, Tryz.ntmps82
    go_wp2_with fail
    go_step3
    go_wp2_with fail
    refine HT.out.mono ?_
    rintro e w1 ⟨rfl, hb1⟩
    have hs1 := hb1.size
    go_wp2
    rw [Exit.noGoto_ret]
    go_ret2
    exact ⟨_, by rw [HM.out]; rfl, by rw [HS.out]; exact ⟨rfl, .inl ⟨rfl, rfl⟩⟩, by (repeat' (first | (with_reducible exact Below.refl _ _) | (with_reducible assumption) | (with_reducible refine Below.alloc ?_ ?_ _) | (with_reducible refine Below.drew ?_) | (with_reducible refine Below.setCell ?_ ?_ _) | (with_reducible exact Nat.le_refl _) | omega | ((repeat (first | rewrite [World.size_alloc] | rewrite [World.size_setCell] | rewrite [World.size_drew])); omega) | (simp; omega) | (simp; done)))⟩
end Go.Proofs.YthgcoocgeekdnaaGreatDoor
namespace Go.PM
open Go.PW
open Go.RowKit
def needB (xs : List Mv) : Bool := decide (0 < (closedB xs).length)
def cioI (xs : List Mv) : Int := if mvalid xs then ((busyF xs 9).length : Int) + ((closedB xs).length : Int) else -1
theorem closedB_no {xs : List Mv} (h : mvalid xs = false) : closedB xs = [] := by
  unfold closedB; rw [h]; rfl
end Go.PM
namespace Go.Proofs.YthgcoocgeekdnaaGreatDoor
open Go.RowKit Go.PM Go.PW

set_option maxRecDepth 100000 in
set_option maxHeartbeats 800000 in
theorem imCountInOrder_c (xs : List Mv) (v : Value) (w : World) (hx : RdM w v xs) (hn' : xs.length ≤ 1048576) :
    Calls Tryz.prog 70 #[v] w fun e w' => e = .returned (.int .i64 (cioI xs)) ∧ Below w.heap.size w w' := by
  have HN : Hid (cioI xs = if mvalid xs then ((busyF xs 9).length : Int) + ((closedB xs).length : Int) else -1) := rfl
  have HI : Hid (countI xs = if mvalid xs then ((busyF xs 9).length : Int) else -1) := rfl
  have hl1 := busyF_len xs 9
  have hl2 := closedB_len xs
  have HC := Lib.hid (imClosedRings_c xs v w hx)
  have HB := Lib.hid (fun W (hW : Below w.heap.size w W) => imCountBusy_c xs v W (hx.below hW) hn')
  go_enter Tryz.func70, Tryz.ntmps70
  go_wp2_with fail
  refine HC.out.mono ?_
  rintro e w1 ⟨v', rfl, ho, hb⟩
  obtain ⟨A, cap, rfl, _⟩ := Rd.of_own ho
  clear ho HC hx
  have hs1 := hb.size
  rcases Bool.eq_false_or_eq_true (mvalid xs) with h1 | h1
  · have hci := HI.out
    rw [h1, if_pos rfl] at hci
    have hcb := HB.out _ hb
    rw [hci] at hcb
    generalize (closedB xs).length = n at *
    generalize (busyF xs 9).length = m at *
    go_wp2_with (go_at_call 83; refine hcb.mono ?_; rintro e w2 ⟨rfl, hb2⟩; refine held ?_)
    unfold Held
    have hb3 := hb.trans (hb2.mono hs1)
    clear hb2 hcb hci
    go_wp2
    go_ret
    exact ⟨by rw [HN.out, h1, if_pos rfl]; rfl, hb3⟩
  · go_wp2
    go_ret
    exact ⟨by rw [HN.out, h1]; rfl, hb⟩
set_option maxRecDepth 100000 in
set_option maxHeartbeats 800000 in
theorem spCountInOrder_c (xs : List Mv) (v : Value) (w : World) (hx : RdM w v xs) (hz : ∀ m ∈ xs, m.1.size ≤ 9223372036854775807 ∧ m.2.size ≤ 9223372036854775807) (hn' : xs.length ≤ 1048576) :
    Calls Tryz.prog 60 #[v] w fun e w' => e = .returned (.int .i64 (cioI xs)) ∧ Below w.heap.size w w' := by
  have HN : Hid (cioI xs = if mvalid xs then ((busyF xs 9).length : Int) + ((closedB xs).length : Int) else -1) := rfl
  have hl1 := busyF_len xs 9
  have hl2 := closedB_len xs
  have HC := Lib.hid (spClosedRings_c xs v w hx hz hn')
  have HB := Lib.hid (fun W (hW : Below w.heap.size w W) => l1Busy_c xs v W (hx.below hW))
  go_enter Tryz.func60, Tryz.ntmps60
  go_wp2_with fail
  refine HC.out.mono ?_
  rintro e w1 ⟨v', rfl, ho, hb⟩
  obtain ⟨A, cap, rfl, _⟩ := Rd.of_own ho
  clear ho HC hx
  have hs1 := hb.size
  rcases Bool.eq_false_or_eq_true (mvalid xs) with h1 | h1
  · have hcb := HB.out _ hb
    go_wp2_with (go_at_call 72; refine hcb.mono ?_; rintro e w2 ⟨v2, rfl, ho2, hb2⟩; refine held ?_)
    unfold Held
    have hb3 := hb.trans (hb2.mono hs1)
    obtain ⟨A2, cap2, rfl, _⟩ := Rd.of_own ho2
    clear hb2 hcb ho2
    generalize (closedB xs).length = n at *
    generalize (busyF xs 9).length = m at *
    go_wp2
    go_ret
    exact ⟨by rw [HN.out, h1, if_pos rfl]; rfl, hb3⟩
  · go_wp2
    go_ret
    exact ⟨by rw [HN.out, h1]; rfl, hb⟩
end Go.Proofs.YthgcoocgeekdnaaGreatDoor
namespace Go.PF
open Go.PM Go.PD Go.RowKit Go.Lib
def preOk (l : List UInt8) (k : Nat) : Prop := (l.take k).Nodup ∧ ∀ c ∈ l.take k, c ∈ regsL
theorem pre_zero (l : List UInt8) : preOk l 0 := by simp [preOk]
theorem pre_step {l : List UInt8} {k : Nat} (hk : k < l.length) (h : preOk l k) : preOk l (k + 1) ↔ l[k] ∈ regsL ∧ l[k] ∉ l.take k := by
  unfold preOk
  rw [take_snoc l k hk, List.nodup_append]
  constructor
  · rintro ⟨⟨_, _, h1⟩, h2⟩
    exact ⟨h2 _ (List.mem_append_right _ (List.mem_singleton_self _)), fun hm => h1 _ hm _ (List.mem_singleton_self _) rfl⟩
  · rintro ⟨h1, h2⟩
    refine ⟨⟨h.1, by simp, fun a ha b hb e => ?_⟩, fun c hc => ?_⟩
    · have : b = l[k] := by simpa using hb
      subst this; subst e; exact h2 ha
    · rcases List.mem_append.1 hc with hc | hc
      · exact h.2 c hc
      · have : c = l[k] := by simpa using hc
        subst this; exact h1
theorem pre_par {l : List UInt8} (k : Nat) (h : parOk l = true) : preOk l k :=
  ⟨(par_nodup h).sublist (List.take_sublist _ _), fun c hc => par_reg h c (List.mem_of_mem_take hc)⟩
theorem par_no {l : List UInt8} {k : Nat} (h : ¬ preOk l k) : parOk l = false := by
  cases hb : parOk l with
  | false => rfl
  | true => exact absurd (pre_par k hb) h
theorem ars_no {az : ByteArray} {k : Nat} (hk : k < az.size) (h : isS (az.extract k (k + 1)) = false) (ps : List UInt8) : clOk ps az.data.toList = false := by
  cases hb : clOk ps az.data.toList with
  | false => rfl
  | true =>
    have hl : k < az.data.toList.length := by rw [size_data]; exact hk
    rw [extract_one az k hk, List.getD_eq_getElem?_getD, List.getElem?_eq_getElem hl] at h
    have := cl_src hb _ (List.getElem_mem hl)
    rw [show ch az.data.toList[k] = ⟨#[(some az.data.toList[k]).getD 0]⟩ from rfl] at this
    rw [this] at h
    cases h
theorem ars_yes {az : ByteArray} (h : ∀ k, k < az.size → isS (az.extract k (k + 1)) = true) (ps : List UInt8) : clOk ps az.data.toList = (parOk ps && decide (az.data.toList.length = ps.length)) := by
  have : arsOk az.data.toList = true := by
    unfold arsOk
    rw [List.all_eq_true]
    intro c hc
    obtain ⟨k, hk, rfl⟩ := List.getElem_of_mem hc
    have h2 := h k (by rw [← size_data]; exact hk)
    rw [extract_one az k (by rw [← size_data]; exact hk), List.getD_eq_getElem?_getD, List.getElem?_eq_getElem hk] at h2
    exact h2
  unfold clOk; rw [this, Bool.true_and]
theorem clM_take {ps az : ByteArray} (h : az.size = ps.size) (k : Nat) (hk : k < ps.size) : (clM ps.data.toList az.data.toList).take (k + 1) = (clM ps.data.toList az.data.toList).take k ++ [(ps.extract k (k + 1), az.extract k (k + 1))] := by
  have h1 : k < ps.data.toList.length := by rw [size_data]; exact hk
  have h2 : k < az.data.toList.length := by rw [size_data]; omega
  have hl : k < (clM ps.data.toList az.data.toList).length := by rw [clM_len _ _ (by rw [size_data, size_data]; exact h)]; exact h1
  rw [take_snoc _ k hl, clM_at k hl h1 h2, extract_one ps k hk, extract_one az k (by omega), List.getD_eq_getElem?_getD, List.getD_eq_getElem?_getD, List.getElem?_eq_getElem h1, List.getElem?_eq_getElem h2]
  rfl
theorem agS_at {ps : List UInt8} {xs : List Mv} (k : Nat) (hk : k < xs.length) (h : (decide (xs[k].1 = xs[k].2) || inPs ps xs[k]) = false) : agS ps xs = false := by
  cases hb : agS ps xs with
  | false => rfl
  | true =>
    have := List.all_eq_true.1 hb _ (List.getElem_mem hk)
    rw [this] at h; cases h
theorem agS_all {ps : List UInt8} {xs : List Mv} (h : ∀ k (hk : k < xs.length), (decide (xs[k].1 = xs[k].2) || inPs ps xs[k]) = true) : agS ps xs = true :=
  List.all_eq_true.2 fun m hm => by
    obtain ⟨k, hk, rfl⟩ := List.getElem_of_mem hm
    exact h k hk
theorem src_one {xs : List Mv} (h : MV xs) {a : ByteArray} (ha : isP a = true) : (srcM xs a).size = 1 := by
  have : isS (srcM xs (nm (pidx a))) = true := SVal_M h (pidx a) (pidx_spec ha).1
  rw [(pidx_spec ha).2] at this
  exact isS_size this
end Go.PF
namespace Go.Proofs.YthgcoocgeekdnaaGreatDoor
open Go.RowKit Go.PM Go.PD Go.PF Go.Lib
attribute [local go_sem] Oper.semAt_some
theorem par_full {l : List UInt8} (h : preOk l l.length) : parOk l = inB (l.length : Int) 1 4 := by
  unfold preOk at h
  rw [List.take_length] at h
  unfold parOk inB
  rw [decide_eq_true (p := l.Nodup ∧ ∀ c ∈ l, c ∈ regsL) h, Bool.and_true, decide_eq_decide]
  omega
theorem regB (c : UInt8) : decide (c ∈ regsL) = inB (c.toNat : Int) 97 102 := by
  unfold inB
  rw [decide_eq_decide]
  constructor
  · intro h
    simp only [regsL, List.mem_cons, List.not_mem_nil, or_false] at h
    rcases h with rfl | rfl | rfl | rfl | rfl | rfl <;> decide
  · intro h
    have e : c = UInt8.ofNat c.toNat := by simp
    have h2 : c.toNat = 97 ∨ c.toNat = 98 ∨ c.toNat = 99 ∨ c.toNat = 100 ∨ c.toNat = 101 ∨ c.toNat = 102 := by omega
    rw [e]
    rcases h2 with h2 | h2 | h2 | h2 | h2 | h2 <;> rw [h2] <;> decide

set_option maxRecDepth 100000 in
set_option maxHeartbeats 1000000 in
theorem l10Params_c (s : ByteArray) (hs : s.size ≤ 1048576) (w : World) :
    Calls Tryz.prog 46 #[.string s] w fun e w' => e = .returned (.bool (parOk s.data.toList)) ∧ Below w.heap.size w w' := by
  have HIN := Lib.hid (fun n lo hi W => l1In_c n lo hi W)
  have HFD := Lib.hid (fun (t : ByteArray) c W ht => l13Find_c t c W ht)
  have HX : Hid (∀ k, (s.extract 0 k).data.toList = s.data.toList.take k) := fun k => by rw [extract_data]; simp
  have HL : Hid (∀ k (hk : k < s.size), s.data.toList[k]? = some s[k]) := fun k hk => List.getElem?_eq_getElem (by rw [size_data]; exact hk)
  have HP0 := Lib.hid (pre_zero s.data.toList)
  have HPS := Lib.hid (fun k hk h => pre_step (l := s.data.toList) (k := k) hk h)
  have HNO := Lib.hid (fun k h => par_no (l := s.data.toList) (k := k) h)
  have HFU := Lib.hid (fun h => par_full (l := s.data.toList) h)
  have HSZ := Lib.hid (size_data s)
  generalize s.data.toList = l at *
  go_enter Tryz.func46, Tryz.ntmps46
  go_wp2
  go_loopw [3, 6] (fun _ i wr => ∃ k : Nat, k ≤ s.size ∧ i = .int .i64 k ∧ Hid (preOk l k) ∧ Below w.heap.size w wr) (fun _ i _ => s.size - (RowKit.intOf i).toNat)
  case atStart => exact ⟨0, by omega, rfl, HP0.out, Below.refl _ _⟩
  case round =>
    obtain ⟨k, hk, rfl, hp, hb⟩ := hrel
    have hbs := hb.size
    by_cases hlt : k < s.size
    · have hll : k < l.length := by rw [HSZ.out]; exact hlt
      have i0 : (0 : Int) ≤ (k : Int) := by omega
      have i1 : (k : Int) < (s.size : Int) := by omega
      have i2 : (k : Int) ≤ (s.size : Int) := by omega
      have HST := Lib.hid (HPS.out k hll hp.out)
      rw [show l[k] = s[k] from (List.getElem_eq_iff hll).2 (HL.out k hlt)] at HST
      have hfd := fun W => HFD.out (s.extract 0 k) s[k] W (by rw [ByteArray.size_extract]; omega)
      rw [HX.out k] at hfd
      have HF := Lib.hid hfd
      have HII := Lib.hid (fun W => HIN.out ((s[k].toNat : Nat) : Int) 97 102 W)
      have hreg := regB s[k]
      clear hfd hll
      have hu8 := wrap64_u8 s[k]
      generalize hc : s[k] = c at *
      rcases Bool.eq_false_or_eq_true (inB (c.toNat : Int) 97 102) with h1 | h1
      · rw [h1] at hreg HII
        by_cases hin : (0 : Int) ≤ indexByte (l.take k) c
        · have HN : Hid (parOk l = false) := HNO.out (k + 1) (fun h => ((HST.out.1 h).2) ((indexByte_mem _ _).1 hin))
          go_wp2
          refine wp_region_ext wr.heap.size (by kernel_rfl) (by kernel_rfl) ?_
          repeat (go_big_quiet_step (first | (go_at_call 27; exact ext_same _ (HII.out _)) | (go_at_call 24; exact ext_same _ (HF.out _))))
          refine wpQuiet_nil ?_
          intro w2 hw'
          obtain ⟨xw, hxw⟩ := hw'
          have hb2 := xw.property
          rw [← hxw] at hb2
          clear hxw xw
          have hbw := hb.trans (hb2.mono hbs)
          clear hb2
          go_wp2
          go_ret
          exact ⟨by rw [HN.out]; rfl, hbw⟩
        · have HK : Hid (preOk l (k + 1)) := HST.out.2 ⟨of_decide_eq_true hreg, fun hm => hin ((indexByte_mem _ _).2 hm)⟩
          go_wp2
          refine wp_region_ext wr.heap.size (by kernel_rfl) (by kernel_rfl) ?_
          repeat (go_big_quiet_step (first | (go_at_call 27; exact ext_same _ (HII.out _)) | (go_at_call 24; exact ext_same _ (HF.out _))))
          refine wpQuiet_nil ?_
          intro w2 hw'
          obtain ⟨xw, hxw⟩ := hw'
          have hb2 := xw.property
          rw [← hxw] at hb2
          clear hxw xw
          have hbw := hb.trans (hb2.mono hbs)
          clear hb2
          go_wp2
          go_roundw
          case rel => exact ⟨k + 1, by omega, by go_num, HK, hbw⟩
          case measure => simp [RowKit.intOf]; omega
      · rw [h1] at hreg HII
        have HN : Hid (parOk l = false) := HNO.out (k + 1) (fun h => (of_decide_eq_false hreg) (HST.out.1 h).1)
        go_wp2
        refine wp_region_ext wr.heap.size (by kernel_rfl) (by kernel_rfl) ?_
        repeat (go_big_quiet_step (first | (go_at_call 27; exact ext_same _ (HII.out _)) | (go_at_call 24; exact ext_same _ (HF.out _))))
        refine wpQuiet_nil ?_
        intro w2 hw'
        obtain ⟨xw, hxw⟩ := hw'
        have hb2 := xw.property
        rw [← hxw] at hb2
        clear hxw xw
        have hbw := hb.trans (hb2.mono hbs)
        clear hb2
        go_wp2
        go_ret
        exact ⟨by rw [HN.out]; rfl, hbw⟩
    · have hk' : k = l.length := by rw [HSZ.out]; omega
      have HE : Hid (parOk l = inB (s.size : Int) 1 4) := by
        show _ = _
        rw [← HSZ.out]
        refine HFU.out ?_
        rw [← hk']; exact hp.out
      have i1 : ¬ (k : Int) < (s.size : Int) := by omega
      clear hk'
      go_wp2_with (first | (go_at_call 27; refine (HIN.out _ _ _ _).mono ?_; rintro e w' ⟨rfl, rfl⟩))
      go_ret
      exact ⟨by rw [HE.out]; rfl, hb⟩
set_option maxRecDepth 100000 in
set_option maxHeartbeats 1000000 in
theorem spCallValid_c (ps az : ByteArray) (hp : ps.size ≤ 1048576) (ha : az.size ≤ 1048576) (w : World) :
    Calls Tryz.prog 28 #[.string ps, .string az] w fun e w' => e = .returned (.bool (clOk ps.data.toList az.data.toList)) ∧ Below w.heap.size w w' := by
  have HPA := Lib.hid (fun W => l10Params_c ps hp W)
  have HNO := Lib.hid (fun k hk h => ars_no (az := az) (k := k) hk h ps.data.toList)
  have HYES : Hid ((∀ k, k < az.size → isS (az.extract k (k + 1)) = true) → clOk ps.data.toList az.data.toList = (parOk ps.data.toList && decide ((az.size : Int) = (ps.size : Int)))) := fun h => by
    rw [ars_yes h, size_data, size_data]
    congr 1
    rw [decide_eq_decide]; omega
  have hor : ∀ (s : ByteArray) x y, isP s = x → isD s = y → isS s = (x || y) := by rintro s x y rfl rfl; rfl
  have HOR := Lib.hid hor
  clear hor
  generalize clOk ps.data.toList az.data.toList = r at *
  generalize parOk ps.data.toList = po at *
  go_enter Tryz.func28, Tryz.ntmps28
  go_wp2
  go_loop [5, 8] (fun _ i => ∃ k : Nat, k ≤ az.size ∧ i = .int .i64 k ∧ Hid (∀ j, j < k → isS (az.extract j (j + 1)) = true)) (fun _ i => az.size - (RowKit.intOf i).toNat)
  case atStart => exact ⟨0, by omega, rfl, fun j hj => absurd hj (by omega)⟩
  case round =>
    obtain ⟨k, hk, rfl, hj⟩ := hrel
    by_cases hlt : k < az.size
    · have i0 : (0 : Int) ≤ (k : Int) := by omega
      have i1 : (k : Int) < (az.size : Int) := by omega
      have i2 : (k : Int) + 1 ≤ (az.size : Int) := by omega
      have HN := Lib.hid (HNO.out k hlt)
      have HNX : Hid (isS (az.extract k (k + 1)) = true → ∀ j, j < k + 1 → isS (az.extract j (j + 1)) = true) := fun h j hjk => by
        by_cases e : j = k
        · subst e; exact h
        · exact hj.out j (by omega)
      have HP := Lib.hid (fun W => l1Place_c (az.extract k (k + 1)) W)
      have HD := Lib.hid (fun W => l1Digit_c (az.extract k (k + 1)) W)
      have HO := Lib.hid (HOR.out (az.extract k (k + 1)))
      generalize hq : az.extract k (k + 1) = q at *
      rcases Bool.eq_false_or_eq_true (isP q) with h1 | h1
      · have HK := Lib.hid (HNX.out (HO.out _ _ h1 rfl))
        rw [h1] at HP
        clear h1
        go_wp2_with (first | (go_at_call 44; refine (HP.out _).mono ?_; rintro e w' ⟨rfl, rfl⟩) | (go_at_call 45; refine (HD.out _).mono ?_; rintro e w' ⟨rfl, rfl⟩))
        go_round
        case rel => exact ⟨k + 1, by omega, by go_num, HK⟩
        case measure => simp [RowKit.intOf]; omega
      · rw [h1] at HP
        rcases Bool.eq_false_or_eq_true (isD q) with h2 | h2
        · have HK := Lib.hid (HNX.out (HO.out _ _ h1 h2))
          rw [h2] at HD
          clear h1 h2
          go_wp2_with (first | (go_at_call 44; refine (HP.out _).mono ?_; rintro e w' ⟨rfl, rfl⟩) | (go_at_call 45; refine (HD.out _).mono ?_; rintro e w' ⟨rfl, rfl⟩))
          go_round
          case rel => exact ⟨k + 1, by omega, by go_num, HK⟩
          case measure => simp [RowKit.intOf]; omega
        · have HF := Lib.hid (HN.out (HO.out _ _ h1 h2))
          rw [h2] at HD
          clear h1 h2
          go_wp2_with (first | (go_at_call 44; refine (HP.out _).mono ?_; rintro e w' ⟨rfl, rfl⟩) | (go_at_call 45; refine (HD.out _).mono ?_; rintro e w' ⟨rfl, rfl⟩))
          go_ret
          exact ⟨by rw [HF.out]; rfl, Below.refl _ _⟩
    · have hk' : k = az.size := by omega
      have i1 : ¬ (k : Int) < (az.size : Int) := by omega
      have HE : Hid (r = (po && decide ((az.size : Int) = (ps.size : Int)))) := by
        refine HYES.out ?_
        rw [← hk']; exact hj.out
      clear hk'
      cases po with
      | false =>
        go_wp2_with (first | (go_at_call 46; refine (HPA.out _).mono ?_; rintro e w2 ⟨rfl, hb2⟩))
        go_ret
        exact ⟨by rw [HE.out]; rfl, hb2⟩
      | true =>
        by_cases hsz : (az.size : Int) = (ps.size : Int)
        · have t1 : ((az.size : Int) == (ps.size : Int)) = true := by simpa using hsz
          have HE2 : Hid (r = true) := by show _ = _; rw [HE.out, decide_eq_true hsz]; rfl
          clear hsz
          go_wp2_with (first | (go_at_call 46; refine (HPA.out _).mono ?_; rintro e w2 ⟨rfl, hb2⟩))
          go_ret
          exact ⟨by rw [HE2.out]; rfl, hb2⟩
        · have t1 : ((az.size : Int) == (ps.size : Int)) = false := by simpa using hsz
          have HE2 : Hid (r = false) := by show _ = _; rw [HE.out, decide_eq_false hsz]; rfl
          clear hsz
          go_wp2_with (first | (go_at_call 46; refine (HPA.out _).mono ?_; rintro e w2 ⟨rfl, hb2⟩))
          go_ret
          exact ⟨by rw [HE2.out]; rfl, hb2⟩
set_option maxRecDepth 100000 in
set_option maxHeartbeats 1000000 in
theorem l10Moves_c (ps az : ByteArray) (hs : az.size = ps.size) (hp : ps.size ≤ 4) (w : World) :
    Calls Tryz.prog 61 #[.string ps, .string az] w fun e w' => ∃ v', e = .returned v' ∧ w'.ownsRow w.heap.size 98 2 v' (clM ps.data.toList az.data.toList).length (mcells (clM ps.data.toList az.data.toList)) ∧ Below w.heap.size w w' := by
  have hE := World.ownsRow_lit (e := 98) (base := w.heap.size) (size := 2) w #[] 0 (Nat.le_refl _) (Nat.zero_le _) rfl
  have HT := Lib.hid (fun k hk => clM_take hs k hk)
  have HLE : Hid ((clM ps.data.toList az.data.toList).length = ps.size) := by show _ = _; rw [clM_len _ _ (by rw [size_data, size_data]; exact hs), size_data]
  have HFL : Hid ((clM ps.data.toList az.data.toList).take ps.size = clM ps.data.toList az.data.toList) := by show _ = _; rw [List.take_of_length_le (by rw [HLE.out]; exact Nat.le_refl _)]
  generalize clM ps.data.toList az.data.toList = xs at *
  go_enter Tryz.func61, Tryz.ntmps61
  go_wp2
  go_loopw [5, 6, 10] (fun o _ i wr => ∃ (k : Nat), k ≤ ps.size ∧ i = .int .i64 k ∧ wr.ownsRow w.heap.size 98 2 o (xs.take k).length (mcells (xs.take k)) ∧ Below w.heap.size w wr) (fun _ _ i _ => ps.size - (RowKit.intOf i).toNat)
  case atStart => exact ⟨0, by omega, rfl, hE, by (repeat' (first | (with_reducible exact Below.refl _ _) | (with_reducible assumption) | (with_reducible refine Below.alloc ?_ ?_ _) | (with_reducible refine Below.drew ?_) | (with_reducible refine Below.setCell ?_ ?_ _) | (with_reducible exact Nat.le_refl _) | omega | ((repeat (first | rewrite [World.size_alloc] | rewrite [World.size_setCell] | rewrite [World.size_drew])); omega) | (simp; omega) | (simp; done)))⟩
  case round =>
    obtain ⟨k, hk, rfl, ho, hb⟩ := hrel
    have hbs := hb.size
    by_cases hlt : k < ps.size
    · have i0 : (0 : Int) ≤ (k : Int) := by omega
      have i1 : (k : Int) < (ps.size : Int) := by omega
      have i2 : (k : Int) + 1 ≤ (ps.size : Int) := by omega
      have i3 : (k : Int) + 1 ≤ (az.size : Int) := by omega
      have HTK := Lib.hid (HT.out k hlt)
      have hlk : (xs.take k).length ≤ 4 := by rw [List.length_take]; omega
      generalize hx1 : ps.extract k (k + 1) = x1 at *
      generalize hx2 : az.extract k (k + 1) = x2 at *
      have hnw := two_new wr.drew (.string x1) (.string x2) 98
      go_wp2
      refine region_late_wide (m := 0) (C := fun w' => w' = wr.drew) (D := fun _ => True) 12 (by kernel_rfl) (by kernel_rfl) _ _ (by rfl) (by rfl) (by rfl) u5 (by intro _ _ _ h; exact h) (yieldsD_move (by rfl) _ (by rfl) u5 (by rfl)) (fun _ _ => trivial) rfl ?_
      simp only [List.take_succ_cons, List.take_zero, List.drop_succ_cons, List.drop_zero, Nat.reduceSub, Nat.reduceAdd]
      simp only [Act.put, List.setIfInBounds_toArray, List.set_cons_succ, List.set_cons_zero]
      repeat (gi_big_quiet_step (fail))
      refine wpQuietIn_nil ?_
      intro w' hw' K hK
      subst hw'
      refine sliceIn_mv (.tmp 24) rfl x1 x2 (by rfl) ?_
      refine hK _ _ trivial ?_
      clear hK K
      simp only [Act.put, List.setIfInBounds_toArray, List.set_cons_succ, List.set_cons_zero]
      have hod : wr.drew.ownsRow w.heap.size 98 2 u5 (xs.take k).length (mcells (xs.take k)) := ho
      refine listIn_mv rfl (.tmp 13) (.tmp 25) rfl w.heap.size u5 (xs.take k) (x1, x2) ⟨wr.drew.heap.size, 0, none⟩ 1 (by rfl) (by rfl) (own_keep hod ((Below.refl _ _).alloc (Nat.le_refl _) _)) hnw (by omega) (by simp; omega) ?_
      intro v' w3 hown3 hgrow3
      have hge := own_block_ge ho
      have Bd : Below w.heap.size w wr.drew := hb.drew
      have hbw3 : Below w.heap.size w w3 := (Bd.alloc Bd.size (.cells #[.string x1, .string x2] 98)).trans (below_grown hgrow3 (B := w.heap.size) (by have := Bd.size; simp; omega) hge)
      clear ho hod hge hgrow3 hnw Bd
      gi_wp2
      go_wp2
      go_roundw
      case rel => exact ⟨k + 1, by omega, by go_num, by rw [HTK.out]; exact hown3, hbw3⟩
      case measure => simp [RowKit.intOf]; omega
    · have HK : Hid (k = ps.size) := by show _ = _; omega
      have i1 : ¬ (k : Int) < (ps.size : Int) := by omega
      have ho2 := ho
      rw [HK.out, HFL.out] at ho2
      clear ho hlt
      go_wp2
      go_ret
      exact ⟨_, rfl, ho2, hb⟩
end Go.Proofs.YthgcoocgeekdnaaGreatDoor
namespace Go.Proofs.YthgcoocgeekdnaaGreatDoor
open Go.RowKit Go.PM Go.PD Go.PF
theorem litsR (w : World) (t : TypeId) (cs : Array Value) (lo hi : Int) (h : cs.toList.all (fun u => match u with | .int .i64 x => decide (lo ≤ x) && decide (x ≤ hi) | _ => false) = true) : Lits (w.alloc (.cells cs t)) w.heap.size cs.size (fun u => ∃ x, u = .int .i64 x ∧ lo ≤ x ∧ x ≤ hi) :=
  Lits.new w t cs _ fun u hu => by
    have := List.all_eq_true.1 h u hu
    split at this
    · next x =>
      rw [Bool.and_eq_true, decide_eq_true_eq, decide_eq_true_eq] at this
      exact ⟨x, rfl, this.1, this.2⟩
    · cases this

end Go.Proofs.YthgcoocgeekdnaaGreatDoor
namespace Go.PF
open Go.PM Go.PD Go.RowKit Go.Lib
/-- the first letters, as many as a call has arguments -/
def abc (n : Nat) : List UInt8 := ([97, 98, 99, 100] : List UInt8).take n
theorem abc_par {n : Nat} (h1 : 1 ≤ n) (h4 : n ≤ 4) : parOk (abc n) = true ∧ (abc n).length = n := by
  match n, h1, h4 with
  | 1, _, _ | 2, _, _ | 3, _, _ | 4, _, _ => decide +kernel
/-- parameters of so many registers behind some, in the order of the alphabet -/
def arrs : Nat → List UInt8 → List (List UInt8)
  | 0, ps => [ps]
  | d + 1, ps => regsL.flatMap fun c => if c ∈ ps then [] else arrs d (ps ++ [c])
theorem arrs_mem : ∀ (d : Nat) (ps : List UInt8), ps.Nodup → (∀ c ∈ ps, c ∈ regsL) → ∀ qs : List UInt8, qs ∈ arrs d ps ↔ (qs.length = ps.length + d ∧ ps <+: qs ∧ qs.Nodup ∧ ∀ c ∈ qs, c ∈ regsL)
  | 0, ps, h1, h2, qs => by
    show qs ∈ [ps] ↔ _
    rw [List.mem_singleton]
    constructor
    · rintro rfl; exact ⟨rfl, List.prefix_refl _, h1, h2⟩
    · rintro ⟨e, h, _, _⟩; exact (h.eq_of_length e.symm).symm
  | d + 1, ps, h1, h2, qs => by
    show qs ∈ regsL.flatMap _ ↔ _
    rw [List.mem_flatMap]
    constructor
    · rintro ⟨c, hc, hq⟩
      by_cases hin : c ∈ ps
      · rw [if_pos hin] at hq; cases hq
      · rw [if_neg hin] at hq
        have h3 : (ps ++ [c]).Nodup := List.nodup_append.2 ⟨h1, by simp, fun a ha b hb e => by
          have : b = c := by simpa using hb
          subst this; subst e; exact hin ha⟩
        have h4 : ∀ x ∈ ps ++ [c], x ∈ regsL := fun x hx => by
          rcases List.mem_append.1 hx with hx | hx
          · exact h2 x hx
          · have : x = c := by simpa using hx
            subst this; exact hc
        obtain ⟨k1, k2, k3, k4⟩ := (arrs_mem d (ps ++ [c]) h3 h4 qs).1 hq
        exact ⟨by rw [k1, List.length_append, List.length_singleton]; omega, (List.prefix_append ps [c]).trans k2, k3, k4⟩
    · rintro ⟨k1, ⟨r, rfl⟩, k3, k4⟩
      cases r with
      | nil => rw [List.append_nil] at k1; omega
      | cons c r =>
        have hin : c ∉ ps := fun hc => by
          have := (List.nodup_append.1 k3).2.2 c hc c (List.mem_cons_self ..)
          exact this rfl
        have hc : c ∈ regsL := k4 c (by simp)
        refine ⟨c, hc, ?_⟩
        rw [if_neg hin]
        have e : ps ++ c :: r = (ps ++ [c]) ++ r := by simp
        rw [e] at k1 k3 k4 ⊢
        refine (arrs_mem d (ps ++ [c]) ?_ ?_ _).2 ⟨by rw [k1, List.length_append, List.length_singleton]; omega, ⟨r, rfl⟩, k3, k4⟩
        · exact k3.sublist (List.sublist_append_left _ _)
        · exact fun x hx => k4 x (List.mem_append_left _ hx)
theorem arrs_par {n : Nat} (h1 : 1 ≤ n) (h4 : n ≤ 4) (qs : List UInt8) : qs ∈ arrs n [] ↔ (parOk qs = true ∧ qs.length = n) := by
  rw [arrs_mem n [] List.nodup_nil (by simp)]
  unfold parOk
  rw [Bool.and_eq_true, decide_eq_true_eq, decide_eq_true_eq]
  constructor
  · rintro ⟨k1, _, k3, k4⟩
    have : qs.length = n := by simpa using k1
    exact ⟨⟨by omega, k3, k4⟩, this⟩
  · rintro ⟨⟨_, k3, k4⟩, k1⟩
    exact ⟨by simpa using k1, List.nil_prefix, k3, k4⟩
theorem arrs_len : ∀ (d : Nat) (ps : List UInt8), (arrs d ps).length ≤ 6 ^ d
  | 0, _ => Nat.le_refl _
  | d + 1, ps => by
    have key : ∀ l : List UInt8, (l.flatMap fun c => if c ∈ ps then [] else arrs d (ps ++ [c])).length ≤ l.length * 6 ^ d := by
      intro l
      induction l with
      | nil => simp
      | cons a l ih =>
        rw [List.flatMap_cons, List.length_append, List.length_cons, Nat.succ_mul]
        have : (if a ∈ ps then [] else arrs d (ps ++ [a])).length ≤ 6 ^ d := by
          split
          · simp
          · exact arrs_len d _
        omega
    have := key regsL
    have e : regsL.length * 6 ^ d = 6 ^ (d + 1) := by rw [Nat.pow_succ]; show 6 * 6 ^ d = _; omega
    rw [e] at this
    exact this
end Go.PF
namespace Go.Proofs.YthgcoocgeekdnaaGreatDoor
open Go.RowKit Go.PM Go.PD Go.PF Go.Lib
/-- how many steps calls need with parameters -/
def totI (ps : List UInt8) (cs : List ByteArray) : Int := (cs.map fun c => cioI (clM ps c.data.toList)).sum
theorem totI_nil (ps : List UInt8) : totI ps [] = 0 := rfl
theorem totI_snoc (ps : List UInt8) (cs : List ByteArray) (c : ByteArray) : totI ps (cs ++ [c]) = totI ps cs + cioI (clM ps c.data.toList) := by
  unfold totI
  rw [List.map_append, List.sum_append]
  simp
theorem cio_range (xs : List Mv) : -1 ≤ cioI xs ∧ cioI xs ≤ 1100 := by
  have h1 := busyF_len xs 9
  have h3 := Go.PW.closedB_len xs
  unfold cioI
  split <;> omega
theorem totI_range (ps : List UInt8) : ∀ cs : List ByteArray, -(cs.length : Int) ≤ totI ps cs ∧ totI ps cs ≤ 1100 * cs.length
  | [] => by simp [totI]
  | c :: cs => by
    have h1 := totI_range ps cs
    have h2 := cio_range (clM ps c.data.toList)
    have e : totI ps (c :: cs) = cioI (clM ps c.data.toList) + totI ps cs := by simp [totI]
    rw [e, List.length_cons]
    omega
def csOk (n : Int) (cs : List ByteArray) : Bool := decide (1 ≤ n ∧ n ≤ 4 ∧ cs.length ≤ 5) && cs.all fun c => clOk (abc n.toNat) c.data.toList
def tcI (ps : List UInt8) (cs : List ByteArray) : Int := if parOk ps && csOk (ps.length : Int) cs then totI ps cs else -1
/-- what a search over parameters has: the first best ones, what they cost, how many do -/
structure Cho where
  best : List UInt8
  least : Int
  count : Nat
def vis (cs : List ByteArray) (x : Cho) (ps : List UInt8) : Cho :=
  if x.least < 0 ∨ totI ps cs < x.least then ⟨ps, totI ps cs, 1⟩ else if totI ps cs = x.least then ⟨x.best, x.least, x.count + 1⟩ else x
def runF (cs : List ByteArray) (d : Nat) (ps : List UInt8) (x : Cho) : Cho := (arrs d ps).foldl (vis cs) x
def runK (cs : List ByteArray) (d : Nat) (ps : List UInt8) (k : Nat) (x : Cho) : Cho := ((regsL.take k).flatMap fun c => if c ∈ ps then [] else arrs d (ps ++ [c])).foldl (vis cs) x
theorem runF_zero (cs : List ByteArray) (ps : List UInt8) (x : Cho) : runF cs 0 ps x = vis cs x ps := rfl
theorem runK_zero (cs : List ByteArray) (d : Nat) (ps : List UInt8) (x : Cho) : runK cs d ps 0 x = x := rfl
theorem runK_full (cs : List ByteArray) (d : Nat) (ps : List UInt8) (x : Cho) : runK cs d ps 6 x = runF cs (d + 1) ps x := rfl
theorem runK_step (cs : List ByteArray) (d : Nat) (ps : List UInt8) (k : Nat) (hk : k < 6) (x : Cho) : runK cs d ps (k + 1) x = if regsL.getD k 0 ∈ ps then runK cs d ps k x else runF cs d (ps ++ [regsL.getD k 0]) (runK cs d ps k x) := by
  have hl : k < regsL.length := hk
  unfold runK
  rw [take_snoc _ k hl, List.flatMap_append, List.foldl_append, List.flatMap_singleton, List.getD_eq_getElem?_getD, List.getElem?_eq_getElem hl]
  show List.foldl _ _ (if regsL[k] ∈ ps then [] else arrs d (ps ++ [regsL[k]])) = if regsL[k] ∈ ps then _ else _
  split <;> rfl
theorem vis_count (cs : List ByteArray) (x : Cho) (ps : List UInt8) : (vis cs x ps).count ≤ x.count + 1 := by
  unfold vis
  split
  · show 1 ≤ _; omega
  · split
    · exact Nat.le_refl _
    · omega
theorem fold_count (cs : List ByteArray) : ∀ (l : List (List UInt8)) (x : Cho), (l.foldl (vis cs) x).count ≤ x.count + l.length
  | [], _ => Nat.le_refl _
  | a :: l, x => by
    have h1 := fold_count cs l (vis cs x a)
    have h2 := vis_count cs x a
    rw [List.foldl_cons, List.length_cons]; omega
theorem vis_least (cs : List ByteArray) (hn : cs.length ≤ 5) (x : Cho) (hx : x.least ≤ 6000) (ps : List UInt8) : (vis cs x ps).least ≤ 6000 := by
  have := (totI_range ps cs).2
  unfold vis
  split
  · show totI ps cs ≤ 6000; omega
  · split <;> exact hx
def cho0 : Cho := ⟨[], -1, 0⟩
def choF (n : Int) (cs : List ByteArray) : Cho := if csOk n cs then runF cs n.toNat [] cho0 else cho0
def lcI (n : Int) (cs : List ByteArray) : Int := (choF n cs).least
def cbI (n : Int) (cs : List ByteArray) : Int := if (choF n cs).least < 0 then -1 else ((choF n cs).count : Int)
def bpB (n : Int) (cs : List ByteArray) : ByteArray := ⟨(choF n cs).best.toArray⟩
def ibB (ps : ByteArray) (cs : List ByteArray) : Bool := decide (0 ≤ tcI ps.data.toList cs) && decide (tcI ps.data.toList cs = lcI (ps.size : Int) cs)
/-- greedy parameters -/
def votN (cs : List ByteArray) (i : Nat) (c : UInt8) : Nat := cs.countP fun a => decide (a.extract i (i + 1) = ch c)
def grS (cs : List ByteArray) (i : Nat) (ps : List UInt8) (b : List UInt8) (k : Nat) : List UInt8 :=
  if regsL.getD k 0 ∈ ps then b else match b with
  | [] => [regsL.getD k 0]
  | d :: _ => if votN cs i (regsL.getD k 0) > votN cs i d then [regsL.getD k 0] else b
def grK (cs : List ByteArray) (i : Nat) (ps : List UInt8) : Nat → List UInt8
  | 0 => []
  | k + 1 => grS cs i ps (grK cs i ps k) k
def grF (cs : List ByteArray) : Nat → List UInt8
  | 0 => []
  | i + 1 => grF cs i ++ grK cs i (grF cs i) 6
def gpB (n : Int) (cs : List ByteArray) : ByteArray := okS (csOk n cs) ⟨(grF cs n.toNat).toArray⟩
end Go.Proofs.YthgcoocgeekdnaaGreatDoor
namespace Go.Proofs.YthgcoocgeekdnaaGreatDoor
open Go.RowKit Go.PM Go.PD Go.PF Go.Lib
attribute [local go_sem] Oper.semAt_some
theorem cs_at {n : Int} {cs : List ByteArray} (h : csOk n cs = true) : 1 ≤ n ∧ n ≤ 4 ∧ cs.length ≤ 5 ∧ ∀ c ∈ cs, clOk (abc n.toNat) c.data.toList = true := by
  unfold csOk at h
  rw [Bool.and_eq_true, decide_eq_true_eq, List.all_eq_true] at h
  exact ⟨h.1.1, h.1.2.1, h.1.2.2, h.2⟩
theorem cs_size {n : Int} {cs : List ByteArray} (h : csOk n cs = true) : ∀ c ∈ cs, (c.size : Int) = n := fun c hc => by
  obtain ⟨h1, h2, _, h4⟩ := cs_at h
  have h5 := cl_len (h4 c hc)
  rw [size_data, (abc_par (n := n.toNat) (by omega) (by omega)).2] at h5
  omega
theorem cs_cl {n : Int} {cs : List ByteArray} (h : csOk n cs = true) {ps : List UInt8} (hp : parOk ps = true) (hl : (ps.length : Int) = n) : ∀ c ∈ cs, clOk ps c.data.toList = true := fun c hc => by
  obtain ⟨h1, h2, _, h4⟩ := cs_at h
  refine cl_mk hp ?_ (cl_src (h4 c hc))
  have := cs_size h c hc
  rw [size_data]; omega
theorem cs_no {n : Int} {cs : List ByteArray} {k : Nat} (hk : k < cs.length) (h : clOk (abc n.toNat) cs[k].data.toList = false) : csOk n cs = false := by
  cases hb : csOk n cs with
  | false => rfl
  | true =>
    have := (cs_at hb).2.2.2 _ (List.getElem_mem hk)
    rw [this] at h; cases h
theorem cs_yes {n : Int} {cs : List ByteArray} (h : 1 ≤ n ∧ n ≤ 4 ∧ cs.length ≤ 5) (h2 : ∀ k (hk : k < cs.length), clOk (abc n.toNat) cs[k].data.toList = true) : csOk n cs = true := by
  unfold csOk
  rw [decide_eq_true h, Bool.true_and, List.all_eq_true]
  intro c hc
  obtain ⟨k, hk, rfl⟩ := List.getElem_of_mem hc
  exact h2 k hk
theorem abcB (n : Nat) (hn : n ≤ 4) : ((⟨#[97, 98, 99, 100]⟩ : ByteArray).extract 0 n).data.toList = abc n := by
  match n, hn with
  | 0, _ | 1, _ | 2, _ | 3, _ | 4, _ => decide +kernel

set_option maxRecDepth 100000 in
set_option maxHeartbeats 1600000 in
theorem spCallsValid_c (n : Int) (cs : List ByteArray) (v : Value) (w : World) (hx : RdT w v cs) (hz : ∀ c ∈ cs, c.size ≤ 1048576) (hn' : cs.length ≤ 1048576) :
    Calls Tryz.prog 14 #[.int .i64 n, v] w fun e w' => e = .returned (.bool (csOk n cs)) ∧ Below w.heap.size w w' := by
  obtain ⟨A, cap, rfl, hn, hc, hcell⟩ := hx.open
  clear hx
  have HI := Lib.hid (fun W => l1In_c n 1 4 W)
  by_cases h1 : 1 ≤ n ∧ n ≤ 4
  · have e1 : inB n 1 4 = true := decide_eq_true h1
    rw [e1] at HI
    obtain ⟨m, rfl⟩ := Int.eq_ofNat_of_zero_le (show (0 : Int) ≤ n by omega)
    by_cases h2 : cs.length ≤ 5
    · have HV : Hid (∀ k (hk : k < cs.length) W, Calls Tryz.prog 28 #[.string ((⟨#[97, 98, 99, 100]⟩ : ByteArray).extract 0 m), .string cs[k]] W fun e w' => e = .returned (.bool (clOk (abc m) cs[k].data.toList)) ∧ Below W.heap.size W w') := fun k hk W => by
        have := spCallValid_c ((⟨#[97, 98, 99, 100]⟩ : ByteArray).extract 0 m) cs[k] (by rw [ByteArray.size_extract]; omega) (hz _ (List.getElem_mem hk)) W
        rw [abcB m (by omega)] at this
        exact this
      have HNO := Lib.hid (fun k (hk : k < cs.length) h => cs_no (n := (m : Int)) hk h)
      have HYES := Lib.hid (fun h => cs_yes (n := (m : Int)) (cs := cs) ⟨h1.1, h1.2, h2⟩ h)
      rw [show ((m : Int)).toNat = m from rfl] at HNO HYES
      have t1 : ¬ (cs.length : Int) > 5 := by omega
      have t2 : decide ((cs.length : Int) > 5) = false := decide_eq_false t1
      have i3 : (m : Int) ≤ 4 := h1.2
      have i4 : (0 : Int) ≤ (m : Int) := by omega
      clear hz h1 h2 e1
      generalize csOk (m : Int) cs = r at *
      go_enter Tryz.func14, Tryz.ntmps14
      go_wp2_with (go_at_call 27; refine (HI.out _).mono ?_; rintro e w' ⟨rfl, rfl⟩)
      go_loopw [6, 17] (fun _ i wr => ∃ (k : Nat), k ≤ cs.length ∧ i = .int .i64 k ∧ Hid (∀ j (hj : j < cs.length), j < k → clOk (abc m) cs[j].data.toList = true) ∧ Below w.heap.size w wr) (fun _ i _ => cs.length - (RowKit.intOf i).toNat)
      case atStart => exact ⟨0, by omega, rfl, fun j _ hj => absurd hj (Nat.not_lt_zero j), Below.refl _ _⟩
      case round =>
        obtain ⟨k, hk, rfl, hall, hb⟩ := hrel
        have hbs := hb.size
        by_cases hlt : k < cs.length
        · obtain ⟨b, off, rfl, hbl, hc1⟩ := hcell k hlt
          have hd1 := (hb.cell (p := ⟨b, off + k, none⟩) hbl).trans hc1
          have HVK := Lib.hid (HV.out k hlt)
          have HNK := Lib.hid (HNO.out k hlt)
          have HNX : Hid (clOk (abc m) cs[k].data.toList = true → ∀ j (hj : j < cs.length), j < k + 1 → clOk (abc m) cs[j].data.toList = true) := fun h j hj hjk => by
            by_cases e : j = k
            · subst e; exact h
            · exact hall.out j hj (by omega)
          have i0 : (0 : Int) ≤ (k : Int) := by omega
          have i1 : (k : Int) < (cs.length : Int) := by omega
          clear hc1 hcell
          generalize clOk (abc m) cs[k].data.toList = ok at *
          generalize cs[k] = q at *
          cases ok with
          | true =>
            have HK := Lib.hid (HNX.out rfl)
            go_wp2_with fail
            refine (HVK.out _).mono ?_
            rintro e w2 ⟨rfl, hb2⟩
            have hbw := hb.trans (hb2.mono hbs)
            go_wp2
            go_roundw
            case rel => exact ⟨k + 1, by omega, by go_num, HK, hbw⟩
            case measure => simp [RowKit.intOf]; omega
          | false =>
            have HK := Lib.hid (HNK.out rfl)
            go_wp2_with fail
            refine (HVK.out _).mono ?_
            rintro e w2 ⟨rfl, hb2⟩
            have hbw := hb.trans (hb2.mono hbs)
            go_wp2
            go_ret
            exact ⟨by rw [HK.out]; rfl, hbw⟩
        · have HT : Hid (r = true) := HYES.out fun j hj => hall.out j hj (by omega)
          have i1 : ¬ (k : Int) < (cs.length : Int) := by omega
          go_wp2
          go_ret
          exact ⟨by rw [HT.out]; rfl, hb⟩
    · have HN : Hid (csOk (m : Int) cs = false) := by
        show _ = _
        unfold csOk
        rw [decide_eq_false (fun h => h2 h.2.2)]; rfl
      have t1 : (cs.length : Int) > 5 := by omega
      have t2 : decide ((cs.length : Int) > 5) = true := decide_eq_true t1
      clear hz h1 h2 e1 hcell
      generalize csOk (m : Int) cs = r at *
      go_enter Tryz.func14, Tryz.ntmps14
      go_wp2_with (go_at_call 27; refine (HI.out _).mono ?_; rintro e w' ⟨rfl, rfl⟩)
      go_ret
      exact ⟨by rw [HN.out]; rfl, Below.refl _ _⟩
  · have e1 : inB n 1 4 = false := decide_eq_false h1
    rw [e1] at HI
    have HN : Hid (csOk n cs = false) := by
      show _ = _
      unfold csOk
      rw [decide_eq_false (fun h => h1 ⟨h.1, h.2.1⟩)]; rfl
    clear hz h1 e1 hcell
    generalize csOk n cs = r at *
    go_enter Tryz.func14, Tryz.ntmps14
    go_wp2_with (go_at_call 27; refine (HI.out _).mono ?_; rintro e w' ⟨rfl, rfl⟩)
    go_ret
    exact ⟨by rw [HN.out]; rfl, Below.refl _ _⟩
set_option maxRecDepth 100000 in
set_option maxHeartbeats 1600000 in
theorem l11Total_c (ps : ByteArray) (cs : List ByteArray) (v : Value) (w : World) (hx : RdT w v cs) (hp : ps.size ≤ 4) (hs : ∀ c ∈ cs, c.size = ps.size) (h5 : cs.length ≤ 5) :
    Calls Tryz.prog 49 #[.string ps, v] w fun e w' => e = .returned (.int .i64 (totI ps.data.toList cs)) ∧ Below w.heap.size w w' := by
  obtain ⟨A, cap, rfl, hn, hc, hcell⟩ := hx.open
  clear hx
  have HM := Lib.hid (fun k (hk : k < cs.length) W => l10Moves_c ps cs[k] (hs _ (List.getElem_mem hk)) hp W)
  have HSZ : Hid (∀ k (hk : k < cs.length), (∀ m ∈ clM ps.data.toList cs[k].data.toList, m.1.size ≤ 9223372036854775807 ∧ m.2.size ≤ 9223372036854775807) ∧ (clM ps.data.toList cs[k].data.toList).length ≤ 1048576) := fun k hk => by
    refine ⟨fun m hm => ?_, ?_⟩
    · obtain ⟨x, _, rfl⟩ := List.mem_map.1 hm
      exact ⟨by show (1 : Nat) ≤ _; omega, by show (1 : Nat) ≤ _; omega⟩
    · rw [clM_len _ _ (by rw [size_data, size_data]; exact hs _ (List.getElem_mem hk)), size_data]; omega
  have HT : Hid (∀ k (hk : k < cs.length), totI ps.data.toList (cs.take (k + 1)) = totI ps.data.toList (cs.take k) + cioI (clM ps.data.toList cs[k].data.toList)) := fun k hk => by rw [take_snoc cs k hk, totI_snoc]
  have HR := Lib.hid (fun k => totI_range ps.data.toList (cs.take k))
  have HCR := Lib.hid (fun k (hk : k < cs.length) => cio_range (clM ps.data.toList cs[k].data.toList))
  have H0 : Hid (totI ps.data.toList (cs.take 0) = 0) := rfl
  have HF : Hid (totI ps.data.toList (cs.take cs.length) = totI ps.data.toList cs) := by show _ = _; rw [List.take_length]
  clear hs
  go_enter Tryz.func49, Tryz.ntmps49
  go_wp2
  go_loopw [5, 7, 10] (fun o _ i wr => ∃ (k : Nat), k ≤ cs.length ∧ i = .int .i64 k ∧ o = .int .i64 (totI ps.data.toList (cs.take k)) ∧ Below w.heap.size w wr) (fun _ _ i _ => cs.length - (RowKit.intOf i).toNat)
  case atStart => exact ⟨0, by omega, rfl, by rw [H0.out], Below.refl _ _⟩
  case round =>
    obtain ⟨k, hk, rfl, rfl, hb⟩ := hrel
    have hbs := hb.size
    by_cases hlt : k < cs.length
    · obtain ⟨b, off, rfl, hbl, hc1⟩ := hcell k hlt
      have hd1 := (hb.cell (p := ⟨b, off + k, none⟩) hbl).trans hc1
      have HMK := Lib.hid (HM.out k hlt)
      obtain ⟨z1, z2⟩ := HSZ.out k hlt
      have HC := Lib.hid (fun u W (hx : RdM W u (clM ps.data.toList cs[k].data.toList)) => spCountInOrder_c (clM ps.data.toList cs[k].data.toList) u W hx z1 z2)
      have HTK := Lib.hid (HT.out k hlt)
      have hr := HR.out k
      have hcr := HCR.out k hlt
      have htl : (cs.take k).length ≤ 5 := by rw [List.length_take]; omega
      have i0 : (0 : Int) ≤ (k : Int) := by omega
      have i1 : (k : Int) < (cs.length : Int) := by omega
      clear hc1 hcell z1 z2
      generalize totI ps.data.toList (cs.take k) = cur at *
      generalize cioI (clM ps.data.toList cs[k].data.toList) = ci at *
      generalize clM ps.data.toList cs[k].data.toList = xs at *
      generalize cs[k] = q at *
      have i2 : -6 ≤ cur + ci := by omega
      have i3 : cur + ci ≤ 10000 := by omega
      clear hr hcr
      go_wp2_with fail
      refine (HMK.out _).mono ?_
      rintro e w2 ⟨v', rfl, ho, hb2⟩
      have hB2 := hb.trans (hb2.mono hbs)
      have hR : RdM w2 v' xs := Rd.of_own ho
      clear ho hb2
      go_wp2_with fail
      refine (HC.out _ _ hR).mono ?_
      rintro e w3 ⟨rfl, hb3⟩
      have hB3 := hB2.trans (hb3.mono hB2.size)
      go_wp2
      go_roundw
      case rel => exact ⟨k + 1, by omega, by go_num, by rw [HTK.out], hB3⟩
      case measure => simp [RowKit.intOf]; omega
    · have HK : Hid (k = cs.length) := by show _ = _; omega
      have i1 : ¬ (k : Int) < (cs.length : Int) := by omega
      go_wp2
      go_ret
      exact ⟨by rw [← HF.out, HK.out]; rfl, hb⟩
end Go.Proofs.YthgcoocgeekdnaaGreatDoor
namespace Go.Proofs.YthgcoocgeekdnaaGreatDoor
open Go.RowKit Go.PM Go.PD Go.PF Go.Lib
attribute [local go_sem] Oper.semAt_some
/-- the cells of a search -/
def chC (v : Value) (x : Cho) : Array Value := #[v, .string ⟨x.best.toArray⟩, .int .i64 x.least, .int .i64 (x.count : Int)]
theorem idx_neg (l : List UInt8) (c : UInt8) : indexByte l c < 0 ↔ c ∉ l := by
  have h := indexByte_mem l c
  constructor
  · intro h1 h2
    have := h.2 h2
    omega
  · intro h1
    rcases Int.lt_or_le (indexByte l c) 0 with h2 | h2
    · exact h2
    · exact absurd (h.1 h2) h1
theorem toB (s : ByteArray) : (⟨s.data.toList.toArray⟩ : ByteArray) = s := by cases s; simp

set_option maxRecDepth 100000 in
set_option maxHeartbeats 3200000 in
theorem all0_c (cs : List ByteArray) (h5 : cs.length ≤ 5) (v : Value) (w0 : World) (hv : RdT w0 v cs) (s : ByteArray) (h4 : s.size ≤ 4) (hs : ∀ c ∈ cs, c.size = s.size) (b : Nat) (hb0 : w0.heap.size ≤ b)
    (x : Cho) (W : World) (hA : At W b 43 (chC v x)) (hB : Below w0.heap.size w0 W) (hc : x.count ≤ 10000) :
    Calls Tryz.prog 34 #[.pointer (some ⟨b, 0, none⟩), .string s, .int .i64 (s.size : Int)] W fun e w' => (∃ u, e = .returned u) ∧ At w' b 43 (chC v (vis cs x s.data.toList)) ∧ Below w0.heap.size w0 w' := by
  have HT := Lib.hid (l11Total_c s cs v W (hv.below hB) h4 hs h5)
  obtain ⟨best, least, count⟩ := x
  have HV : Hid (∀ y : Cho, y = vis cs ⟨best, least, count⟩ s.data.toList ↔ y = if least < 0 ∨ totI s.data.toList cs < least then (⟨s.data.toList, totI s.data.toList cs, 1⟩ : Cho) else if totI s.data.toList cs = least then ⟨best, least, count + 1⟩ else ⟨best, least, count⟩) := fun y => Iff.rfl
  have HX : Hid (∀ tt : Int, tt = totI s.data.toList cs → vis cs ⟨best, least, count⟩ s.data.toList = if least < 0 ∨ tt < least then (⟨s.data.toList, tt, 1⟩ : Cho) else if tt = least then ⟨best, least, count + 1⟩ else ⟨best, least, count⟩) := fun tt e => by subst e; rfl
  have HX2 := Lib.hid (HX.out _ rfl)
  have hr := totI_range s.data.toList cs

  have HA : Hid (At W b 43 #[v, .string ⟨best.toArray⟩, .int .i64 least, .int .i64 (count : Int)]) := hA
  have hc : count ≤ 10000 := hc
  have i0 : -5 ≤ totI s.data.toList cs := by omega
  have i1 : totI s.data.toList cs ≤ 5500 := by omega
  clear HV HX hr hA
  generalize vis cs ⟨best, least, count⟩ s.data.toList = y at *
  generalize totI s.data.toList cs = tt at *
  have c0 := HA.out.cell 0
  have d0 := HA.out.frozen 0
  have hbw := hB.size
  go_enter Tryz.func34, Tryz.ntmps34
  go_wp2_with fail
  refine HT.out.mono ?_
  rintro e w1 ⟨rfl, hb1⟩
  have B1 := hB.trans (hb1.mono hbw)
  have A1 := HA.out.keep hb1
  have hbl := A1.lt
  clear c0 d0 hv hs
  have p0 := A1.cell 0
  have p1 := A1.cell 1
  have p2 := A1.cell 2
  have p3 := A1.cell 3
  have q1 := A1.frozen 1
  have q2 := A1.frozen 2
  have q3 := A1.frozen 3
  by_cases hn : least < 0 ∨ tt < least
  · rw [if_pos hn] at HX2
    have A2 := A1.set 2 (.int .i64 tt)
    have A3 := A2.set 1 (.string s)
    have A4 := A3.set 3 (.int .i64 0)
    have A5 := A4.set 3 (.int .i64 1)
    have r1 := A2.frozen 1
    have r3 := A3.frozen 3
    have s2 := A4.cell 2
    have s3 := A4.cell 3
    have t3 := A4.frozen 3
    have B5 := (((B1.setCell (p := ⟨b, 2, none⟩) hb0 (.int .i64 tt)).setCell (p := ⟨b, 1, none⟩) hb0 (.string s)).setCell (p := ⟨b, 3, none⟩) hb0 (.int .i64 0)).setCell (p := ⟨b, 3, none⟩) hb0 (.int .i64 1)
    have HG : Hid (At (((((w1.setCell ⟨b, 2, none⟩ (.int .i64 tt)).setCell ⟨b, 1, none⟩ (.string s)).setCell ⟨b, 3, none⟩ (.int .i64 0)).setCell ⟨b, 3, none⟩ (.int .i64 1))) b 43 (chC v y)) := by
      show At _ _ _ _
      rw [HX2.out]
      unfold chC
      rw [toB s]
      exact A5
    have HB := Lib.hid B5
    clear A1 A2 A3 A4 A5 B5 B1
    by_cases hl : least < 0
    · go_wp2
      refine bodyPost_ret (results_none rfl _ _ _) rfl ?_
      exact ⟨⟨_, rfl⟩, HG.out, HB.out⟩
    · have hl2 : tt < least := by omega
      go_wp2
      refine bodyPost_ret (results_none rfl _ _ _) rfl ?_
      exact ⟨⟨_, rfl⟩, HG.out, HB.out⟩
  · rw [if_neg hn] at HX2
    have hl : ¬ least < 0 := fun h => hn (.inl h)
    have hl2 : ¬ tt < least := fun h => hn (.inr h)
    by_cases he : tt = least
    · subst he
      rw [if_pos rfl] at HX2
      have A2 := A1.set 3 (.int .i64 ((count : Int) + 1))
      have HG : Hid (At (w1.setCell ⟨b, 3, none⟩ (.int .i64 ((count : Int) + 1))) b 43 (chC v y)) := by
        show At _ _ _ _
        rw [HX2.out]
        exact A2
      have HB := Lib.hid (B1.setCell (p := ⟨b, 3, none⟩) hb0 (.int .i64 ((count : Int) + 1)))
      clear A1 A2 B1
      go_wp2
      refine bodyPost_ret (results_none rfl _ _ _) rfl ?_
      exact ⟨⟨_, rfl⟩, HG.out, HB.out⟩
    · rw [if_neg he] at HX2
      have t1 : (tt == least) = false := by simpa using he
      have HG : Hid (At w1 b 43 (chC v y)) := by
        show At _ _ _ _
        rw [HX2.out]
        exact A1
      have HB := Lib.hid B1
      clear A1 B1
      go_wp2
      refine bodyPost_ret (results_none rfl _ _ _) rfl ?_
      exact ⟨⟨_, rfl⟩, HG.out, HB.out⟩
theorem runF_count (cs : List ByteArray) (d : Nat) (ps : List UInt8) (x : Cho) : (runF cs d ps x).count ≤ x.count + 6 ^ d := by
  have h1 := fold_count cs (arrs d ps) x
  have h2 := arrs_len d ps
  unfold runF
  omega
theorem runK_count (cs : List ByteArray) (d : Nat) (ps : List UInt8) (x : Cho) : ∀ k, k ≤ 6 → (runK cs d ps k x).count ≤ x.count + k * 6 ^ d
  | 0, _ => by rw [runK_zero]; omega
  | k + 1, h => by
    have h1 := runK_count cs d ps x k (by omega)
    have h2 := runF_count cs d (ps ++ [regsL.getD k 0]) (runK cs d ps k x)
    rw [runK_step cs d ps k (by omega) x, Nat.succ_mul]
    generalize 6 ^ d = q at *
    split <;> omega
theorem chain_bytes (s : ByteArray) (k : Nat) (hk : k < 6) : (s ++ nm k).data.toList = s.data.toList ++ [regsL.getD k 0] := by
  have e : nm k = ⟨#[regsL.getD k 0]⟩ := by
    match k, hk with
    | 0, _ | 1, _ | 2, _ | 3, _ | 4, _ | 5, _ => rfl
  rw [e, ByteArray.data_append, Array.toList_append]
set_option maxRecDepth 100000 in
set_option maxHeartbeats 6400000 in
theorem all_c (cs : List ByteArray) (h5 : cs.length ≤ 5) (v : Value) (w0 : World) (hv : RdT w0 v cs) (n : Nat) (h4 : n ≤ 4) (hs : ∀ c ∈ cs, c.size = n) (b : Nat) (hb0 : w0.heap.size ≤ b) :
    ∀ (d : Nat) (s : ByteArray) (x : Cho) (W : World), s.size + d = n → At W b 43 (chC v x) → Below w0.heap.size w0 W → x.count + 6 ^ d ≤ 10000 →
    Calls Tryz.prog 34 #[.pointer (some ⟨b, 0, none⟩), .string s, .int .i64 (n : Int)] W fun e w' => (∃ u, e = .returned u) ∧ At w' b 43 (chC v (runF cs d s.data.toList x)) ∧ Below w0.heap.size w0 w'
  | 0, s, x, W, hsz, hA, hB, hc => by
    have e : s.size = n := by omega
    subst e
    rw [runF_zero]
    exact all0_c cs h5 v w0 hv s h4 hs b hb0 x W hA hB (by omega)
  | d + 1, s, x, W, hsz, hA, hB, hc => by
    have IH := Lib.hid (all_c cs h5 v w0 hv n h4 hs b hb0 d)
    have HF := Lib.hid (fun c W => l13Find_c s c W (by omega))
    have HST := Lib.hid (fun k hk => runK_step cs d s.data.toList k hk x)
    have HCN : Hid (∀ k, k < 6 → (runK cs d s.data.toList k x).count + 6 ^ d ≤ 10000) := fun k hk => by
      have h1 := runK_count cs d s.data.toList x k (by omega)
      have h2 : k * 6 ^ d ≤ 5 * 6 ^ d := Nat.mul_le_mul_right _ (by omega)
      rw [Nat.pow_succ] at hc
      omega
    have H0 := Lib.hid (runK_zero cs d s.data.toList x)
    have H6 := Lib.hid (runK_full cs d s.data.toList x)
    have HNB := Lib.hid (fun k hk => chain_bytes s k hk)
    have HNG := Lib.hid (fun c => idx_neg s.data.toList c)
    have t0 : ((s.size : Int) == (n : Int)) = false := by
      have : (s.size : Int) ≠ (n : Int) := by omega
      simpa using this
    have h7 : s.size ≤ 3 := by omega
    have HSZ : Hid (∀ k, (s ++ nm k).size + d = n) := fun k => by
      rw [ByteArray.size_append, show (nm k).size = 1 from rfl]; omega
    have HA0 : Hid (At W b 43 (chC v (runK cs d s.data.toList 0 x))) := by show At _ _ _ _; rw [H0.out]; exact hA
    have HB0 := Lib.hid hB
    clear hsz hc hs hA hB hv
    go_enter Tryz.func34, Tryz.ntmps34
    go_wp2
    go_loopw [7, 55] (fun _ i wr => ∃ (k : Nat), k ≤ 6 ∧ i = .int .i64 k ∧ Hid (At wr b 43 (chC v (runK cs d s.data.toList k x))) ∧ Hid (Below w0.heap.size w0 wr)) (fun _ i _ => 6 - (RowKit.intOf i).toNat)
    case atStart => exact ⟨0, by omega, rfl, HA0, HB0⟩
    case round =>
      obtain ⟨k, hk, rfl, hA, hB⟩ := hrel
      by_cases hlt : k < 6
      · have hst := HST.out k hlt
        have hFk := Lib.hid (fun W => HF.out (placesL.getD k 0) W)
        have hng := HNG.out (placesL.getD k 0)
        have hpl : placesL.getD k 0 = regsL.getD k 0 := by
          match k, hlt with
          | 0, _ | 1, _ | 2, _ | 3, _ | 4, _ | 5, _ => rfl
        have hnz : (nm k).size = 1 := rfl
        have hIH := Lib.hid (fun W (hA : At W b 43 (chC v (runK cs d s.data.toList k x))) hB => IH.out (s ++ nm k) (runK cs d s.data.toList k x) W (HSZ.out k) hA hB (HCN.out k hlt))
        rw [HNB.out k hlt] at hIH
        rw [← hpl] at hst hIH
        by_cases hin : indexByte s.data.toList (placesL.getD k 0) < 0
        · have hno := hng.1 hin
          rw [if_neg hno] at hst
          have HS := Lib.hid hst
          clear hst hng hno HNG
          generalize indexByte s.data.toList (placesL.getD k 0) = zz at *
          have hcs : k = 0 ∨ k = 1 ∨ k = 2 ∨ k = 3 ∨ k = 4 ∨ k = 5 := by omega
          rcases hcs with rfl | rfl | rfl | rfl | rfl | rfl
          all_goals
            go_wp2_with (first | (go_at_call 24; refine (hFk.out _).mono ?_; rintro e w' ⟨rfl, rfl⟩) | (go_at_call 34; refine (hIH.out _ hA.out hB.out).mono ?_; rintro e w2 ⟨⟨u, rfl⟩, hA2, hB2⟩; rw [← HS.out] at hA2; have HA2 := Lib.hid hA2; have HB2 := Lib.hid hB2; clear hA2 hB2))
            go_roundw
            case rel => first | exact ⟨1, by decide, rfl, HA2, HB2⟩ | exact ⟨2, by decide, rfl, HA2, HB2⟩ | exact ⟨3, by decide, rfl, HA2, HB2⟩ | exact ⟨4, by decide, rfl, HA2, HB2⟩ | exact ⟨5, by decide, rfl, HA2, HB2⟩ | exact ⟨6, by decide, rfl, HA2, HB2⟩
            case measure => simp [RowKit.intOf]
        · have hno : placesL.getD k 0 ∈ s.data.toList := Classical.not_not.1 fun h => hin (hng.2 h)
          rw [if_pos hno] at hst
          rw [← hst] at hA
          clear hst hng hno HNG
          generalize indexByte s.data.toList (placesL.getD k 0) = zz at *
          have hcs : k = 0 ∨ k = 1 ∨ k = 2 ∨ k = 3 ∨ k = 4 ∨ k = 5 := by omega
          rcases hcs with rfl | rfl | rfl | rfl | rfl | rfl
          all_goals
            go_wp2_with (go_at_call 24; refine (hFk.out _).mono ?_; rintro e w' ⟨rfl, rfl⟩)
            go_roundw
            case rel => first | exact ⟨1, by decide, rfl, hA, hB⟩ | exact ⟨2, by decide, rfl, hA, hB⟩ | exact ⟨3, by decide, rfl, hA, hB⟩ | exact ⟨4, by decide, rfl, hA, hB⟩ | exact ⟨5, by decide, rfl, hA, hB⟩ | exact ⟨6, by decide, rfl, hA, hB⟩
            case measure => simp [RowKit.intOf]
      · have hk' : k = 6 := by omega
        subst hk'
        go_wp2
        go_end0
        exact ⟨⟨_, rfl⟩, by rw [← H6.out]; exact hA.out, hB.out⟩
end Go.Proofs.YthgcoocgeekdnaaGreatDoor
namespace Go.Proofs.YthgcoocgeekdnaaGreatDoor
open Go.RowKit Go.PM Go.PD Go.PF Go.Lib
attribute [local go_sem] Oper.semAt_some

set_option maxRecDepth 100000 in
set_option maxHeartbeats 3200000 in
theorem l11Run_c (n : Int) (cs : List ByteArray) (v : Value) (w : World) (hx : RdT w v cs) (hz : ∀ c ∈ cs, c.size ≤ 1048576) (hn' : cs.length ≤ 1048576) :
    Calls Tryz.prog 21 #[.int .i64 n, v] w fun e w' => ∃ b, e = .returned (.pointer (some ⟨b, 0, none⟩)) ∧ w.heap.size ≤ b ∧ At w' b 43 (chC v (choF n cs)) ∧ Below w.heap.size w w' := by
  obtain ⟨A, cap, rfl, _, _, _⟩ := id hx.open
  have HV := Lib.hid (fun W (hW : Below w.heap.size w W) => spCallsValid_c n cs (.slice A cs.length cap) W (hx.below hW) hz hn')
  rcases Bool.eq_false_or_eq_true (csOk n cs) with h2 | h2
  · obtain ⟨h1, h4, h5, _⟩ := cs_at h2
    have hs := cs_size h2
    obtain ⟨m, rfl⟩ := Int.eq_ofNat_of_zero_le (show (0 : Int) ≤ n by omega)
    have HR := Lib.hid (fun b hb W hA hB => all_c cs h5 (.slice A cs.length cap) w hx m (by omega) (fun c hc => by have := hs c hc; omega) b hb m (⟨#[]⟩ : ByteArray) cho0 W (by show 0 + m = m; omega) hA hB (by
      have : 6 ^ m ≤ 6 ^ 4 := Nat.pow_le_pow_right (by omega) (by omega)
      show 0 + 6 ^ m ≤ 10000
      omega))
    have HO : Hid (choF (m : Int) cs = runF cs m [] cho0) := by show _ = _; unfold choF; rw [h2]; rfl
    rw [h2] at HV
    clear hx hz h2 hs
    generalize choF (m : Int) cs = y at *
    go_enter Tryz.func21, Tryz.ntmps21
    go_wp2_with fail
    have A1 : At (w.alloc (.cells #[.slice A cs.length cap, .string { data := #[] }, .int .i64 (-1), .int .i64 0] 43)) w.heap.size 43 (chC (.slice A cs.length cap) cho0) := At.new w 43 #[.slice A cs.length cap, .string { data := #[] }, .int .i64 (-1), .int .i64 0]
    have B1 : Below w.heap.size w (w.alloc (.cells #[.slice A cs.length cap, .string { data := #[] }, .int .i64 (-1), .int .i64 0] 43)) := (Below.refl _ _).alloc (Nat.le_refl _) _
    generalize hw1 : w.alloc (.cells #[.slice A cs.length cap, .string { data := #[] }, .int .i64 (-1), .int .i64 0] 43) = w1 at *
    refine (HV.out _ B1).mono ?_
    rintro e w2 ⟨rfl, hb2⟩
    have A2 := A1.keep hb2
    have B2 := B1.trans (hb2.mono B1.size)
    clear A1 B1 hb2 hw1
    go_wp2_with fail
    refine (HR.out _ (Nat.le_refl _) _ A2 B2).mono ?_
    rintro e w3 ⟨⟨u, rfl⟩, A3, B3⟩
    have HA3 : Hid (At w3 w.heap.size 43 (chC (.slice A cs.length cap) y)) := by show At _ _ _ _; rw [HO.out]; exact A3
    have HB3 := Lib.hid B3
    clear A2 B2 A3 B3
    go_wp2
    go_ret
    exact ⟨_, rfl, Nat.le_refl _, HA3.out, HB3.out⟩
  · have HO : Hid (choF n cs = cho0) := by show _ = _; unfold choF; rw [h2]; rfl
    rw [h2] at HV
    clear hx hz h2
    generalize choF n cs = y at *
    go_enter Tryz.func21, Tryz.ntmps21
    go_wp2_with fail
    have A1 : At (w.alloc (.cells #[.slice A cs.length cap, .string { data := #[] }, .int .i64 (-1), .int .i64 0] 43)) w.heap.size 43 (chC (.slice A cs.length cap) cho0) := At.new w 43 #[.slice A cs.length cap, .string { data := #[] }, .int .i64 (-1), .int .i64 0]
    have B1 : Below w.heap.size w (w.alloc (.cells #[.slice A cs.length cap, .string { data := #[] }, .int .i64 (-1), .int .i64 0] 43)) := (Below.refl _ _).alloc (Nat.le_refl _) _
    generalize hw1 : w.alloc (.cells #[.slice A cs.length cap, .string { data := #[] }, .int .i64 (-1), .int .i64 0] 43) = w1 at *
    refine (HV.out _ B1).mono ?_
    rintro e w2 ⟨rfl, hb2⟩
    have A2 := A1.keep hb2
    have B2 := B1.trans (hb2.mono B1.size)
    rw [← HO.out] at A2
    have HA2 := Lib.hid A2
    have HB2 := Lib.hid B2
    clear A1 B1 hb2 hw1 A2 B2
    go_wp2
    go_ret
    exact ⟨_, rfl, Nat.le_refl _, HA2.out, HB2.out⟩
theorem choF_least (n : Int) (cs : List ByteArray) : (choF n cs).count ≤ 10000 := by
  unfold choF
  split
  · rename_i h
    obtain ⟨h1, h4, _, _⟩ := cs_at h
    have h2 := runF_count cs n.toNat [] cho0
    have : 6 ^ n.toNat ≤ 6 ^ 4 := Nat.pow_le_pow_right (by omega) (by omega)
    have e : cho0.count = 0 := rfl
    omega
  · decide
set_option maxRecDepth 100000 in
set_option maxHeartbeats 3200000 in
theorem spBestParams_c (n : Int) (cs : List ByteArray) (v : Value) (w : World) (hx : RdT w v cs) (hz : ∀ c ∈ cs, c.size ≤ 1048576) (hn' : cs.length ≤ 1048576) :
    Calls Tryz.prog 6 #[.int .i64 n, v] w fun e w' => e = .returned (.tuple #[.string (bpB n cs), .bool (decide (0 ≤ lcI n cs))]) ∧ Below w.heap.size w w' := by
  have HR := Lib.hid (l11Run_c n cs v w hx hz hn')
  have HO1 : Hid (bpB n cs = ⟨(choF n cs).best.toArray⟩) := rfl
  have HO2 : Hid (lcI n cs = (choF n cs).least) := rfl
  rw [HO1.out, HO2.out]
  clear hx hz HO1 HO2
  generalize choF n cs = y at *
  obtain ⟨best, least, count⟩ := y
  have HR : Hid (Calls Tryz.prog 21 #[.int .i64 n, v] w fun e w' => ∃ b, e = .returned (.pointer (some ⟨b, 0, none⟩)) ∧ w.heap.size ≤ b ∧ At w' b 43 #[v, .string ⟨best.toArray⟩, .int .i64 least, .int .i64 (count : Int)] ∧ Below w.heap.size w w') := HR
  show Calls _ _ _ _ fun e w' => e = .returned (.tuple #[.string ⟨best.toArray⟩, .bool (decide (0 ≤ least))]) ∧ Below w.heap.size w w'
  generalize (⟨best.toArray⟩ : ByteArray) = bs at *
  by_cases hl : 0 ≤ least
  · rw [decide_eq_true hl]
    have hl2 : decide (least ≥ 0) = true := decide_eq_true hl
    go_enter Tryz.func6, Tryz.ntmps6
    go_wp2_with fail
    refine HR.out.mono ?_
    rintro e w1 ⟨b, rfl, hb, hA, hB⟩
    have hbl := hA.lt
    have hp1 : w1.cell? ⟨b, 1, none⟩ = some (.string bs) := hA.cell 1
    have hp2 : w1.cell? ⟨b, 2, none⟩ = some (.int .i64 least) := hA.cell 2
    clear hA HR
    go_wp2
    go_region
    go_wp2
    go_ret2
    exact ⟨rfl, hB.drew⟩
  · rw [decide_eq_false hl]
    have hl2 : decide (least ≥ 0) = false := decide_eq_false hl
    go_enter Tryz.func6, Tryz.ntmps6
    go_wp2_with fail
    refine HR.out.mono ?_
    rintro e w1 ⟨b, rfl, hb, hA, hB⟩
    have hbl := hA.lt
    have hp1 : w1.cell? ⟨b, 1, none⟩ = some (.string bs) := hA.cell 1
    have hp2 : w1.cell? ⟨b, 2, none⟩ = some (.int .i64 least) := hA.cell 2
    clear hA HR
    go_wp2
    go_region
    go_wp2
    go_ret2
    exact ⟨rfl, hB.drew⟩
set_option maxHeartbeats 800000 in
theorem spLeastCost_c (n : Int) (cs : List ByteArray) (v : Value) (w : World) (hx : RdT w v cs) (hz : ∀ c ∈ cs, c.size ≤ 1048576) (hn' : cs.length ≤ 1048576) :
    Calls Tryz.prog 11 #[.int .i64 n, v] w fun e w' => e = .returned (.int .i64 (lcI n cs)) ∧ Below w.heap.size w w' := by
  have HR := Lib.hid (l11Run_c n cs v w hx hz hn')
  have HO2 : Hid (lcI n cs = (choF n cs).least) := rfl
  rw [HO2.out]
  clear hx hz HO2
  generalize choF n cs = y at *
  obtain ⟨best, least, count⟩ := y
  have HR : Hid (Calls Tryz.prog 21 #[.int .i64 n, v] w fun e w' => ∃ b, e = .returned (.pointer (some ⟨b, 0, none⟩)) ∧ w.heap.size ≤ b ∧ At w' b 43 #[v, .string ⟨best.toArray⟩, .int .i64 least, .int .i64 (count : Int)] ∧ Below w.heap.size w w') := HR
  show Calls _ _ _ _ fun e w' => e = .returned (.int .i64 least) ∧ Below w.heap.size w w'
  generalize (⟨best.toArray⟩ : ByteArray) = bs at *
  go_enter Tryz.func11, Tryz.ntmps11
  go_wp2_with fail
  refine HR.out.mono ?_
  rintro e w1 ⟨b, rfl, hb, hA, hB⟩
  have hbl := hA.lt
  have hp2 : w1.cell? ⟨b, 2, none⟩ = some (.int .i64 least) := hA.cell 2
  clear hA HR
  go_wp2
  go_ret
  exact ⟨rfl, hB⟩
set_option maxHeartbeats 1600000 in
theorem spCountBest_c (n : Int) (cs : List ByteArray) (v : Value) (w : World) (hx : RdT w v cs) (hz : ∀ c ∈ cs, c.size ≤ 1048576) (hn' : cs.length ≤ 1048576) :
    Calls Tryz.prog 12 #[.int .i64 n, v] w fun e w' => e = .returned (.int .i64 (cbI n cs)) ∧ Below w.heap.size w w' := by
  have HR := Lib.hid (l11Run_c n cs v w hx hz hn')
  have HO2 : Hid (cbI n cs = if (choF n cs).least < 0 then -1 else ((choF n cs).count : Int)) := rfl
  rw [HO2.out]
  clear hx hz HO2
  generalize choF n cs = y at *
  obtain ⟨best, least, count⟩ := y
  have HR : Hid (Calls Tryz.prog 21 #[.int .i64 n, v] w fun e w' => ∃ b, e = .returned (.pointer (some ⟨b, 0, none⟩)) ∧ w.heap.size ≤ b ∧ At w' b 43 #[v, .string ⟨best.toArray⟩, .int .i64 least, .int .i64 (count : Int)] ∧ Below w.heap.size w w') := HR
  show Calls _ _ _ _ fun e w' => e = .returned (.int .i64 (if least < 0 then -1 else (count : Int))) ∧ Below w.heap.size w w'
  generalize (⟨best.toArray⟩ : ByteArray) = bs at *
  by_cases hl : least < 0
  · rw [if_pos hl]
    go_enter Tryz.func12, Tryz.ntmps12
    go_wp2_with fail
    refine HR.out.mono ?_
    rintro e w1 ⟨b, rfl, hb, hA, hB⟩
    have hbl := hA.lt
    have hp2 : w1.cell? ⟨b, 2, none⟩ = some (.int .i64 least) := hA.cell 2
    clear hA HR
    go_wp2
    go_ret
    exact ⟨rfl, hB⟩
  · rw [if_neg hl]
    go_enter Tryz.func12, Tryz.ntmps12
    go_wp2_with fail
    refine HR.out.mono ?_
    rintro e w1 ⟨b, rfl, hb, hA, hB⟩
    have hbl := hA.lt
    have hp2 : w1.cell? ⟨b, 2, none⟩ = some (.int .i64 least) := hA.cell 2
    have hp3 : w1.cell? ⟨b, 3, none⟩ = some (.int .i64 (count : Int)) := hA.cell 3
    clear hA HR
    go_wp2
    go_ret
    exact ⟨rfl, hB⟩
end Go.Proofs.YthgcoocgeekdnaaGreatDoor
namespace Go.Proofs.YthgcoocgeekdnaaGreatDoor
open Go.RowKit Go.PM Go.PD Go.PF
attribute [local go_sem] Oper.semAt_some
theorem own_litT (w : World) (base : Nat) (hb : base ≤ w.heap.size) : (w.alloc (.cells #[] 9)).ownsRow base 9 1 (.slice (some ⟨w.heap.size, 0, none⟩) 0 0) ([] : List ByteArray).length (([] : List ByteArray).map Value.string) :=
  World.ownsRow_lit (e := 9) (base := base) (size := 1) w #[] 0 hb (Nat.zero_le _) rfl
/-- what a draw of a number and of calls keeps -/
def drS (n : Int) (ts : List ByteArray) : Prop := -1 ≤ n ∧ n ≤ 5 ∧ ts.length ≤ 6 ∧ ∀ c ∈ ts, c.size ≤ 4

set_option maxRecDepth 100000 in
set_option maxHeartbeats 3200000 in
theorem l11Draw_c (w : World) (B r : Nat) (p : Int) (hr : Rdr w 60 B r p) (p1 : p ≤ 500000) :
    Calls Tryz.prog 18 #[.pointer (some ⟨r, 0, none⟩)] w fun e w' => ∃ n v ts p', e = .returned (.tuple #[.int .i64 n, v]) ∧ w'.ownsRow w.heap.size 9 1 v ts.length (ts.map Value.string) ∧ Hid (drS n ts) ∧ Rdr w' 60 B r p' ∧ p' ≤ p + 60 ∧ w.grownBy w' (some r) := by
  have hlt : r < w.heap.size := by obtain ⟨_, _, v, n, _, _, h⟩ := hr; exact h.lt
  go_enter Tryz.func18, Tryz.ntmps18
  go_wp2_with fail
  refine (num_c _ B r w.heap.size 5 p (fun x => 1 ≤ x ∧ x ≤ 3) (hr.keep ((Below.refl _ _).alloc (Nat.le_refl _) _)) (by decide) (by decide) (by omega) (litsR _ _ _ 1 3 (by rfl)) (by omega)).mono ?_
  rintro e w1 ⟨n, rfl, ⟨n0, n1⟩, R1, g1⟩
  obtain ⟨N, rfl⟩ := Int.eq_ofNat_of_zero_le (show (0 : Int) ≤ n by omega)
  have G1 := grown_trans (grown_below ((Below.refl w.heap.size w).alloc (Nat.le_refl _) _) (some r)) g1
  have hs1 := G1.size
  clear g1 hr
  go_wp2_with fail
  have E0 := own_litT w1 w.heap.size hs1
  have L6 := litsR (w1.alloc (.cells #[] 9)) 3 #[.int .i64 2, .int .i64 3, .int .i64 1, .int .i64 4, .int .i64 0, .int .i64 5] 0 5 (by rfl)
  rw [World.size_alloc] at L6
  refine (num_c _ B r (w1.heap.size + 1) 6 (p + 1) (fun x => 0 ≤ x ∧ x ≤ 5) ((R1.keep ((Below.refl _ _).alloc (Nat.le_refl _) _)).keep ((Below.refl _ _).alloc (Nat.le_refl _) _)) (by decide) (by decide) (by omega) L6 (by omega)).mono ?_
  clear L6
  rintro e w2 ⟨x, rfl, ⟨hx1, hx2⟩, R2, g2⟩
  obtain ⟨M, rfl⟩ := Int.eq_ofNat_of_zero_le hx1
  have E2 := own_grown (own_keep E0 ((Below.refl _ _).alloc (Nat.le_refl _) (.cells #[.int .i64 2, .int .i64 3, .int .i64 1, .int .i64 4, .int .i64 0, .int .i64 5] 3))) g2 (.inl (fun e => by have := own_block_ge E0 r e; omega))
  have G2 := grown_trans G1 (grown_trans (grown_below (((Below.refl _ _).alloc (Nat.le_refl _) (.cells #[] 9)).alloc (by simp) (.cells #[.int .i64 2, .int .i64 3, .int .i64 1, .int .i64 4, .int .i64 0, .int .i64 5] 3)) (some r)) g2)
  have hs2 := G2.size
  clear E0 g2 R1 G1
  go_wp2
  go_loopw [5, 6, 14] (fun o _ i wr => ∃ (j : Nat) (ts : List ByteArray) (q : Int), j ≤ M ∧ i = .int .i64 j ∧ ts.length ≤ j ∧ Hid (∀ c ∈ ts, c.size ≤ 4) ∧ wr.ownsRow w.heap.size 9 1 o ts.length (ts.map Value.string) ∧ Rdr wr 60 B r q ∧ q ≤ p + 2 + 4 * (j : Int) ∧ w.grownBy wr (some r)) (fun _ _ i _ => M - (RowKit.intOf i).toNat)
  case atStart => exact ⟨0, [], _, by omega, rfl, Nat.zero_le _, (fun c hc => by cases hc), E2, R2, by omega, G2⟩
  case round =>
    clear E2 R2 G2 hs2
    obtain ⟨j, ts, q, hj, rfl, htl, hts, ho, R, hq, G⟩ := hrel
    have hsr := G.size
    by_cases hlt2 : j < M
    · have i1 : (j : Int) < (M : Int) := by omega
      have hn3 : N ≤ 3 := by omega
      have i2 : (0 : Int) ≤ (N : Int) := by omega
      go_wp2
      go_loopw [6, 17] (fun s i wr => ∃ (k : Nat) (t : ByteArray), k ≤ N ∧ i = .int .i64 k ∧ s = .string t ∧ t.size ≤ k ∧ wr.ownsRow w.heap.size 9 1 u5 ts.length (ts.map Value.string) ∧ Rdr wr 60 B r (q + k) ∧ w.grownBy wr (some r)) (fun _ i _ => N - (RowKit.intOf i).toNat)
      case atStart => exact ⟨0, ⟨#[]⟩, by omega, rfl, rfl, Nat.le_refl _, ho, by simpa using R, G⟩
      case round =>
        clear ho R G hsr
        obtain ⟨k, t, hk, rfl, rfl, ht, ho, R, G⟩ := hrel
        have hsr := G.size
        by_cases hlt3 : k < N
        · have i3 : (k : Int) < (N : Int) := by omega
          go_wp2_with fail
          refine (of_c _ B r wr.heap.size 10 (q + k) (fun s => s.size ≤ 1) (R.keep ((Below.refl _ _).alloc (Nat.le_refl _) _)) (by decide) (by decide) (by omega) (Lits.strs _ _ _ 1 (by rfl)) (by omega)).mono ?_
          rintro e w3 ⟨x, rfl, hx, R3, g3⟩
          have E3 := own_grown (own_keep ho ((Below.refl _ _).alloc (Nat.le_refl _) _)) g3 (.inl (fun e => by have := own_block_ge ho r e; omega))
          have G3 := grown_trans G (grown_trans (grown_below ((Below.refl _ _).alloc (Nat.le_refl _) _) (some r)) g3)
          have hpp : q + ((k + 1 : Nat) : Int) = q + (k : Int) + 1 := by omega
          rw [← hpp] at R3
          have ht2 : (t ++ x).size ≤ k + 1 := by rw [ByteArray.size_append]; omega
          clear g3 R G hpp ho
          go_wp2
          go_roundw
          case rel => exact ⟨k + 1, t ++ x, by omega, by go_num, rfl, ht2, E3, R3, G3⟩
          case measure => simp [RowKit.intOf]; omega
        · have i3 : ¬ (k : Int) < (N : Int) := by omega
          have ht4 : t.size ≤ 4 := by omega
          have HXA : Hid (∀ c ∈ ts ++ [t], c.size ≤ 4) := fun c hc => by
            rcases List.mem_append.1 hc with h | h
            · exact hts.out c h
            · have e : c = t := by simpa using h
              rw [e]; exact ht4
          have hnw := one_new wr (.string t) 9
          go_wp2_with (at_builtin; refine held ?_)
          unfold Held
          refine app_str rfl (.tmp 25) (.tmp 27) rfl w.heap.size u5 ts t ⟨wr.heap.size, 0, none⟩ 1 (by rfl) (by rfl) (own_keep ho ((Below.refl _ _).alloc (Nat.le_refl _) _)) hnw (by omega) (by simp; omega) ?_
          intro v' w6 hown6 hgrow6
          have R6 := (R.keep ((Below.refl _ _).alloc (Nat.le_refl _) (.cells #[.string t] 9))).grow hgrow6 (fun g e => by have := own_block_ge ho g e; omega)
          have G6 := grown_over (grown_trans G (grown_below ((Below.refl _ _).alloc (Nat.le_refl _) (.cells #[.string t] 9)) (some r))) hgrow6 (fun g e => own_block_ge ho g e)
          have hlen : (ts ++ [t]).length ≤ j + 1 := by rw [List.length_append, List.length_singleton]; omega
          go_wp2
          go_roundw
          case rel => exact ⟨j + 1, ts ++ [t], _, by omega, by go_num, hlen, HXA, hown6, R6, by omega, G6⟩
          case measure => simp [RowKit.intOf]; omega
    · have i1 : ¬ (j : Int) < (M : Int) := by omega
      have hl5 : ts.length ≤ 5 := by omega
      have HP := Lib.hid (pick_c wr B r 20 q R (by omega) (by omega) (by omega))
      have hq2 : q ≤ p + 22 := by omega
      have HN : Hid (∀ n : Int, -1 ≤ n → n ≤ 5 → Hid (drS n ts)) := fun n h1 h2 => ⟨h1, h2, by omega, hts.out⟩
      have HNN := Lib.hid (HN.out (N : Int) (by omega) (by omega))
      clear hts hq
      go_wp2_with fail
      refine HP.out.mono ?_
      rintro e w3 ⟨y, rfl, y0, y1, R3, g3⟩
      have E3 := own_grown ho g3 (.inl (fun e => by have := own_block_ge ho r e; omega))
      have G3 := grown_trans G g3
      have hs3 := G3.size
      clear HP ho R G g3
      by_cases h0 : y = 0
      · subst h0
        go_wp2_with fail
        refine (num_c _ B r w3.heap.size 4 (q + 1) (fun x => -1 ≤ x ∧ x ≤ 5) (R3.keep ((Below.refl _ _).alloc (Nat.le_refl _) _)) (by decide) (by decide) (by omega) (litsR _ _ _ (-1) 5 (by rfl)) (by omega)).mono ?_
        rintro e w4 ⟨x, rfl, ⟨x0, x1⟩, R4, g4⟩
        have E4 := own_grown (own_keep E3 ((Below.refl _ _).alloc (Nat.le_refl _) _)) g4 (.inl (fun e => by have := own_block_ge E3 r e; omega))
        have G4 := grown_trans G3 (grown_trans (grown_below ((Below.refl _ _).alloc (Nat.le_refl _) _) (some r)) g4)
        clear E3 R3 G3 g4
        go_wp2
        go_ret2
        exact ⟨_, _, ts, _, rfl, E4, HN.out _ x0 x1, R4, by omega, G4⟩
      · have t0 : (y == 0) = false := by simpa using h0
        by_cases h1 : y = 1
        · subst h1
          go_wp2_with fail
          refine (of_c _ B r w3.heap.size 4 (q + 1) (fun s => s.size ≤ 4) (R3.keep ((Below.refl _ _).alloc (Nat.le_refl _) _)) (by decide) (by decide) (by omega) (Lits.strs _ _ _ 4 (by rfl)) (by omega)).mono ?_
          rintro e w4 ⟨x, rfl, hx, R4, g4⟩
          have E4 := own_grown (own_keep E3 ((Below.refl _ _).alloc (Nat.le_refl _) _)) g4 (.inl (fun e => by have := own_block_ge E3 r e; omega))
          have G4 := grown_trans G3 (grown_trans (grown_below ((Below.refl _ _).alloc (Nat.le_refl _) _) (some r)) g4)
          have hs4 := G4.size
          have HXA : Hid (drS (N : Int) (ts ++ [x])) := by
            obtain ⟨q1, q2, q3, q4⟩ := HNN.out.out
            refine ⟨q1, q2, by rw [List.length_append, List.length_singleton]; omega, fun c hc => ?_⟩
            rcases List.mem_append.1 hc with h | h
            · exact q4 c h
            · have e : c = x := by simpa using h
              rw [e]; exact hx
          have hnw := one_new w4 (.string x) 9
          clear E3 R3 G3 g4
          go_wp2_with (at_builtin; refine held ?_)
          unfold Held
          refine app_str rfl (.tmp 41) (.tmp 45) rfl w.heap.size u5 ts x ⟨w4.heap.size, 0, none⟩ 1 (by rfl) (by rfl) (own_keep E4 ((Below.refl _ _).alloc (Nat.le_refl _) _)) hnw (by omega) (by simp; omega) ?_
          intro v' w6 hown6 hgrow6
          have R6 := (R4.keep ((Below.refl _ _).alloc (Nat.le_refl _) (.cells #[.string x] 9))).grow hgrow6 (fun g e => by have := own_block_ge E4 g e; omega)
          have G6 := grown_over (grown_trans G4 (grown_below ((Below.refl _ _).alloc (Nat.le_refl _) (.cells #[.string x] 9)) (some r))) hgrow6 (fun g e => own_block_ge E4 g e)
          go_wp2
          go_ret2
          exact ⟨_, _, ts ++ [x], _, rfl, hown6, HXA.out, R6, by omega, G6⟩
        · have t1 : (y == 1) = false := by simpa using h1
          go_wp2
          go_ret2
          exact ⟨_, _, ts, _, rfl, E3, HNN.out, R3, by omega, G3⟩
theorem vis_best (cs : List ByteArray) (L : Nat) (x : Cho) (ps : List UInt8) (h1 : x.best.length ≤ L) (h2 : ps.length ≤ L) : (vis cs x ps).best.length ≤ L := by
  unfold vis
  split
  · exact h2
  · split <;> exact h1
theorem fold_best (cs : List ByteArray) (L : Nat) : ∀ (l : List (List UInt8)) (x : Cho), x.best.length ≤ L → (∀ ps ∈ l, ps.length ≤ L) → (l.foldl (vis cs) x).best.length ≤ L
  | [], _, h, _ => h
  | a :: l, x, h, h2 => fold_best cs L l (vis cs x a) (vis_best cs L x a h (h2 a (List.mem_cons_self ..))) (fun ps hp => h2 ps (List.mem_cons_of_mem _ hp))
theorem bpB_size (n : Int) (cs : List ByteArray) : (bpB n cs).size ≤ 4 := by
  show (choF n cs).best.toArray.size ≤ 4
  rw [List.size_toArray]
  unfold choF
  split
  · rename_i h
    obtain ⟨h1, h4, _, _⟩ := cs_at h
    refine fold_best cs 4 _ cho0 (by show (0 : Nat) ≤ 4; decide) (fun ps hp => ?_)
    have := ((arrs_mem n.toNat [] List.nodup_nil (by simp) ps).1 hp).1
    simp at this
    omega
  · decide
def prS (s : ByteArray) (ts : List ByteArray) : Prop := s.size ≤ 4 ∧ ts.length ≤ 6 ∧ ∀ c ∈ ts, c.size ≤ 4

set_option maxHeartbeats 800000 in
theorem drawBestParams_c (w : World) (v : Value) (n : Nat) (hv : RdB w w.heap.size v n) :
    Calls Tryz.prog 4 #[v] w fun e w' => ∃ n v ts, e = .returned (.tuple #[.int .i64 n, v]) ∧ w'.ownsRow w.heap.size 9 1 v ts.length (ts.map Value.string) ∧ Hid (drS n ts) ∧ Below w.heap.size w w' := by
  have HO := Lib.hid (l13Open_c w v n hv)
  go_enter Tryz.func4, Tryz.ntmps4
  go_wp2_with fail
  refine HO.out.mono ?_
  rintro e w1 ⟨r, rfl, R1, b1⟩
  have hB := R1.1
  have HD := Lib.hid (l11Draw_c w1 _ r 0 R1 (by omega))
  go_wp2_with fail
  refine HD.out.mono ?_
  rintro e w2 ⟨m, u, ts, p2, rfl, ho, hz, R2, hp, g2⟩
  have B2 : Below w.heap.size w w2 := b1.trans (below_grown g2 b1.size (fun g e => by cases e; exact hB))
  have ho2 := own_more ho b1.size
  go_wp2
  go_ret2
  exact ⟨_, _, ts, rfl, ho2, hz, B2⟩
end Go.Proofs.YthgcoocgeekdnaaGreatDoor
namespace Go.Proofs.YthgcoocgeekdnaaGreatDoor
open Go.PM Go.PD Go.PF Go.PW Go.RowKit Go.Lib
/-- what is no register -/
def noReg (a : UInt8) : Bool := !decide (a ∈ regsL)
theorem flt_add {α : Type _} (p : α → Bool) : ∀ l : List α, (l.filter p).length + (l.filter fun x => !p x).length = l.length
  | [] => rfl
  | a :: l => by
    have := flt_add p l
    cases h : p a <;> simp [h] <;> omega
theorem clM_rng {ps az : List UInt8} (h : az.length = ps.length) : clM ps az = (List.range ps.length).map fun i => (ch (ps.getD i 0), ch (az.getD i 0)) := by
  apply List.ext_getElem
  · simp [clM, h]
  · intro i h1 h2
    have h3 : i < ps.length := by simpa using h2
    rw [clM_at i h1 h3 (by omega)]
    simp [List.getElem?_eq_getElem h3, List.getElem?_eq_getElem (show i < az.length by omega)]
theorem cost_is {ps az : List UInt8} (h : clOk ps az = true) : cioI (clM ps az) = (((List.range ps.length).filter fun i => !sdH ps az i).length : Int) + ((closedB (clM ps az)).length : Int) := by
  have e : cioI (clM ps az) = ((busyF (clM ps az) 9).length : Int) + ((closedB (clM ps az)).length : Int) := by
    unfold cioI; rw [cl_mv h]; rfl
  rw [e, ← busy_count (cl_MV h)]
  unfold busyM
  rw [clM_rng (cl_len h), List.filter_map, List.length_map]
  have e : ((fun m : Mv => decide (m.1 ≠ m.2)) ∘ fun i => ((ch (ps.getD i 0), ch (az.getD i 0)) : Mv)) = fun i => !sdH ps az i := by
    funext i
    unfold sdH
    show decide (ch (ps.getD i 0) ≠ ch (az.getD i 0)) = _
    by_cases he : ps.getD i 0 = az.getD i 0
    · rw [he]; simp
    · rw [decide_eq_true (p := ch (ps.getD i 0) ≠ ch (az.getD i 0)) (fun e => he (ch_inj e)), decide_eq_false he]; rfl
  rw [e]
theorem cnt_range (p : UInt8 → Bool) (az : List UInt8) : ((List.range az.length).filter fun i => p (az.getD i 0)).length = az.countP p := by
  have e : az = (List.range az.length).map fun i => az.getD i 0 := by
    apply List.ext_getElem
    · simp
    · intro i h1 h2
      simp [List.getElem?_eq_getElem h1]
  conv => rhs; rw [e]
  rw [List.countP_map, List.countP_eq_length_filter]
  rfl
theorem filter_le {α : Type _} (p q : α → Bool) (l : List α) (h : ∀ a ∈ l, p a = true → q a = true) : (l.filter p).length ≤ (l.filter q).length := by
  rw [← List.countP_eq_length_filter, ← List.countP_eq_length_filter]
  exact List.countP_mono_left h
theorem cost_must {ps az : List UInt8} (h : clOk ps az = true) : 0 ≤ cioI (clM ps az) ∧ (az.countP noReg : Int) ≤ cioI (clM ps az) := by
  have h1 := cost_is h
  have h2 := filter_le (fun i => noReg (az.getD i 0)) (fun i => !sdH ps az i) (List.range ps.length) (fun i hi hn => by
    have hi : i < ps.length := List.mem_range.1 hi
    unfold noReg at hn
    unfold sdH
    rw [Bool.not_eq_true', decide_eq_false_iff_not] at hn
    rw [Bool.not_eq_true', decide_eq_false_iff_not]
    intro e
    refine hn ?_
    rw [← e, List.getD_eq_getElem?_getD, List.getElem?_eq_getElem hi]
    exact par_reg (cl_par h) _ (List.getElem_mem hi))
  have h3 := cnt_range noReg az
  rw [cl_len h] at h3
  omega
/-- what any parameters need at the least -/
def mustN (cs : List ByteArray) : Nat := (cs.map fun c => c.data.toList.countP noReg).sum
theorem tot_must (ps : List UInt8) : ∀ cs : List ByteArray, (∀ c ∈ cs, clOk ps c.data.toList = true) → 0 ≤ totI ps cs ∧ (mustN cs : Int) ≤ totI ps cs
  | [], _ => by simp [totI, mustN]
  | c :: cs, h => by
    have h1 := tot_must ps cs (fun d hd => h d (List.mem_cons_of_mem _ hd))
    have h2 := cost_must (h c (List.mem_cons_self ..))
    have e : totI ps (c :: cs) = cioI (clM ps c.data.toList) + totI ps cs := by simp [totI]
    have e2 : mustN (c :: cs) = c.data.toList.countP noReg + mustN cs := by simp [mustN]
    rw [e, e2]
    omega
/-- what has been seen: the first of the best -/
def Good (cs : List ByteArray) (s : List (List UInt8)) (x : Cho) : Prop := x.best ∈ s ∧ x.least = totI x.best cs ∧ (∀ q ∈ s, x.least ≤ totI q cs) ∧ 1 ≤ x.count
theorem good_step {cs : List ByteArray} {s : List (List UInt8)} {x : Cho} (h : Good cs s x) (h0 : 0 ≤ x.least) (p : List UInt8) : Good cs (s ++ [p]) (vis cs x p) := by
  obtain ⟨h1, h2, h3, h4⟩ := h
  unfold vis
  split
  · rename_i hl
    refine ⟨by simp, rfl, fun q hq => ?_, Nat.le_refl _⟩
    show totI p cs ≤ _
    rcases List.mem_append.1 hq with hq | hq
    · have := h3 q hq; omega
    · have e : q = p := by simpa using hq
      rw [e]; exact Int.le_refl _
  · rename_i hl
    split
    · rename_i he
      refine ⟨List.mem_append_left _ h1, h2, fun q hq => ?_, by show 1 ≤ x.count + 1; omega⟩
      show x.least ≤ _
      rcases List.mem_append.1 hq with hq | hq
      · exact h3 q hq
      · have e : q = p := by simpa using hq
        rw [e]; omega
    · refine ⟨List.mem_append_left _ h1, h2, fun q hq => ?_, h4⟩
      rcases List.mem_append.1 hq with hq | hq
      · exact h3 q hq
      · have e : q = p := by simpa using hq
        rw [e]; omega
theorem good_fold {cs : List ByteArray} : ∀ (l s : List (List UInt8)) (x : Cho), Good cs s x → (∀ q ∈ s ++ l, 0 ≤ totI q cs) → Good cs (s ++ l) (l.foldl (vis cs) x)
  | [], s, x, h, _ => by rw [List.append_nil]; exact h
  | a :: l, s, x, h, hq => by
    have h0 : 0 ≤ x.least := by rw [h.2.1]; exact hq _ (List.mem_append_left _ h.1)
    have e : s ++ a :: l = (s ++ [a]) ++ l := by simp
    rw [e] at hq ⊢
    exact good_fold l (s ++ [a]) (vis cs x a) (good_step h h0 a) hq
theorem good_all {cs : List ByteArray} {l : List (List UInt8)} (hl : l ≠ []) (hq : ∀ q ∈ l, 0 ≤ totI q cs) : Good cs l (l.foldl (vis cs) cho0) := by
  cases l with
  | nil => exact absurd rfl hl
  | cons a l =>
    have h1 : Good cs [a] (vis cs cho0 a) := by
      have e : vis cs cho0 a = ⟨a, totI a cs, 1⟩ := if_pos (.inl (by decide))
      rw [e]
      exact ⟨by simp, rfl, fun q hq => by have e : q = a := by simpa using hq
                                          rw [e]; exact Int.le_refl _, Nat.le_refl _⟩
    exact good_fold l [a] (vis cs cho0 a) h1 hq
theorem best_good {n : Int} {cs : List ByteArray} (h : csOk n cs = true) : parOk (choF n cs).best = true ∧ ((choF n cs).best.length : Int) = n ∧ (choF n cs).least = totI (choF n cs).best cs ∧ 0 ≤ (choF n cs).least ∧ (∀ ps, parOk ps = true → (ps.length : Int) = n → (choF n cs).least ≤ totI ps cs) ∧ 1 ≤ (choF n cs).count ∧ (mustN cs : Int) ≤ (choF n cs).least := by
  obtain ⟨h1, h4, h5, _⟩ := cs_at h
  have hm : ∀ qs, qs ∈ arrs n.toNat [] ↔ (parOk qs = true ∧ qs.length = n.toNat) := fun qs => arrs_par (by omega) (by omega) qs
  have hne : arrs n.toNat [] ≠ [] := fun e => by
    have h2 := abc_par (n := n.toNat) (by omega) (by omega)
    have := (hm (abc n.toNat)).2 h2
    rw [e] at this; cases this
  have hq : ∀ q ∈ arrs n.toNat [], 0 ≤ totI q cs ∧ (mustN cs : Int) ≤ totI q cs := fun q hq => by
    obtain ⟨k1, k2⟩ := (hm q).1 hq
    exact tot_must q cs (cs_cl h k1 (by omega))
  have hg := good_all hne (fun q hx => (hq q hx).1)
  have e : choF n cs = (arrs n.toNat []).foldl (vis cs) cho0 := by unfold choF; rw [if_pos h]; rfl
  rw [← e] at hg
  obtain ⟨g1, g2, g3, g4⟩ := hg
  obtain ⟨k1, k2⟩ := (hm _).1 g1
  have k3 := hq _ g1
  exact ⟨k1, by omega, g2, by omega, fun ps p1 p2 => g3 ps ((hm ps).2 ⟨p1, by omega⟩), g4, by omega⟩
theorem reg_mem (k : Nat) (hk : k < 6) : regsL.getD k 0 ∈ regsL := by
  match k, hk with
  | 0, _ | 1, _ | 2, _ | 3, _ | 4, _ | 5, _ => decide
theorem grS_in {cs : List ByteArray} {i : Nat} {ps b : List UInt8} {k : Nat} (hk : k < 6) (h : ∀ d ∈ b, d ∈ regsL ∧ d ∉ ps) : ∀ d ∈ grS cs i ps b k, d ∈ regsL ∧ d ∉ ps := by
  unfold grS
  split
  · exact h
  · rename_i hn
    have h1 : ∀ d ∈ [regsL.getD k 0], d ∈ regsL ∧ d ∉ ps := fun d hd => by
      have e : d = regsL.getD k 0 := by simpa using hd
      rw [e]; exact ⟨reg_mem k hk, hn⟩
    split
    · exact h1
    · split
      · exact h1
      · exact h
theorem grK_in {cs : List ByteArray} {i : Nat} {ps : List UInt8} : ∀ k, k ≤ 6 → ∀ d ∈ grK cs i ps k, d ∈ regsL ∧ d ∉ ps
  | 0, _ => fun d hd => by cases hd
  | k + 1, hk => grS_in (by omega) (grK_in k (by omega))
theorem grS_one {cs : List ByteArray} {i : Nat} {ps b : List UInt8} {k : Nat} (h : b.length = 1 ∨ (b = [] ∧ regsL.getD k 0 ∉ ps)) : (grS cs i ps b k).length = 1 := by
  unfold grS
  split
  · rename_i hn
    rcases h with h | h
    · exact h
    · exact absurd hn h.2
  · split
    · rfl
    · split
      · rfl
      · rcases h with h | h
        · exact h
        · cases h.1
theorem grK_one {cs : List ByteArray} {i : Nat} {ps : List UInt8} (j : Nat) (hj : regsL.getD j 0 ∉ ps) : ∀ k, j < k → (grK cs i ps k).length = 1
  | 0, h => by omega
  | k + 1, h => by
    refine grS_one ?_
    by_cases e : j = k
    · subst e
      have hl := grK_le cs i ps j
      cases hb : grK cs i ps j with
      | nil => exact .inr ⟨rfl, hj⟩
      | cons a l =>
        rw [hb] at hl
        left
        simp at hl ⊢
        exact hl
    · exact .inl (grK_one j hj k (by omega))
where
  grK_le (cs : List ByteArray) (i : Nat) (ps : List UInt8) : ∀ k, (grK cs i ps k).length ≤ 1
  | 0 => Nat.zero_le _
  | k + 1 => by
    have h := grK_le cs i ps k
    show (grS cs i ps (grK cs i ps k) k).length ≤ 1
    unfold grS
    split
    · exact h
    · split
      · exact Nat.le_refl _
      · split
        · exact Nat.le_refl _
        · exact h
theorem reg_free {ps : List UInt8} (h : ps.length ≤ 5) : ∃ j, j < 6 ∧ regsL.getD j 0 ∉ ps := by
  by_cases hc : ∃ j, j < 6 ∧ regsL.getD j 0 ∉ ps
  · exact hc
  · exfalso
    have h2 : ∀ a ∈ regsL, a ∈ ps := fun a ha => by
      obtain ⟨j, hj, rfl⟩ := List.getElem_of_mem ha
      have hj6 : j < 6 := hj
      refine Classical.byContradiction fun hn => hc ⟨j, hj6, ?_⟩
      rw [List.getD_eq_getElem?_getD, List.getElem?_eq_getElem hj]
      exact hn
    have := Go.PM.nodup_le regsL ps (by decide) h2
    have e : regsL.length = 6 := rfl
    omega
theorem grF_good (cs : List ByteArray) : ∀ i, i ≤ 4 → (grF cs i).Nodup ∧ (∀ c ∈ grF cs i, c ∈ regsL) ∧ (grF cs i).length = i
  | 0, _ => ⟨List.nodup_nil, (fun c hc => by cases hc), rfl⟩
  | i + 1, hi => by
    obtain ⟨h1, h2, h3⟩ := grF_good cs i (by omega)
    obtain ⟨j, hj, hn⟩ := reg_free (ps := grF cs i) (by omega)
    have h4 := grK_one (cs := cs) (i := i) j hn 6 hj
    have h5 := grK_in (cs := cs) (i := i) (ps := grF cs i) 6 (Nat.le_refl _)
    show (grF cs i ++ grK cs i (grF cs i) 6).Nodup ∧ (∀ c ∈ grF cs i ++ grK cs i (grF cs i) 6, c ∈ regsL) ∧ (grF cs i ++ grK cs i (grF cs i) 6).length = i + 1
    generalize grK cs i (grF cs i) 6 = b at *
    match b, h4 with
    | [d], _ =>
      have h6 := h5 d (by simp)
      refine ⟨List.nodup_append.2 ⟨h1, by simp, fun a ha x hx e => ?_⟩, fun c hc => ?_, by simp [h3]⟩
      · have e2 : x = d := by simpa using hx
        subst e2; subst e; exact h6.2 ha
      · rcases List.mem_append.1 hc with hc | hc
        · exact h2 c hc
        · have e2 : c = d := by simpa using hc
          rw [e2]; exact h6.1
theorem gre_good {n : Int} {cs : List ByteArray} (h : csOk n cs = true) : parOk (grF cs n.toNat) = true ∧ ((grF cs n.toNat).length : Int) = n := by
  obtain ⟨h1, h4, _, _⟩ := cs_at h
  obtain ⟨k1, k2, k3⟩ := grF_good cs n.toNat (by omega)
  refine ⟨?_, by omega⟩
  unfold parOk
  rw [Bool.and_eq_true, decide_eq_true_eq, decide_eq_true_eq]
  exact ⟨by omega, k1, k2⟩
/-- the best parameters, in the words of the answers -/
theorem cho_no {n : Int} {cs : List ByteArray} (h : csOk n cs = false) : choF n cs = cho0 := by unfold choF; rw [h]; rfl
theorem lc_ok (n : Int) (cs : List ByteArray) : decide (0 ≤ lcI n cs) = csOk n cs := by
  cases h : csOk n cs with
  | true => exact decide_eq_true (best_good h).2.2.2.1
  | false =>
    have : lcI n cs = -1 := by unfold lcI; rw [cho_no h]; rfl
    rw [this]; rfl
theorem tc_best {n : Int} {cs : List ByteArray} (h : csOk n cs = true) : tcI (bpB n cs).data.toList cs = lcI n cs ∧ ibB (bpB n cs) cs = true := by
  obtain ⟨k1, k2, k3, k4, _⟩ := best_good h
  have e : (bpB n cs).data.toList = (choF n cs).best := by simp [bpB]
  have e2 : ((bpB n cs).size : Int) = n := by rw [← size_data, e]; exact k2
  have h1 : tcI (bpB n cs).data.toList cs = lcI n cs := by
    rw [e]
    unfold tcI
    rw [k1, k2, h]
    exact k3.symm
  refine ⟨h1, ?_⟩
  unfold ibB
  rw [h1, e2, decide_eq_true (p := lcI n cs = lcI n cs) rfl, Bool.and_true]
  exact decide_eq_true k4
theorem tc_greedy {n : Int} {cs : List ByteArray} (h : csOk n cs = true) : lcI n cs ≤ tcI (gpB n cs).data.toList cs ∧ ibB (gpB n cs) cs = decide (tcI (gpB n cs).data.toList cs = lcI n cs) := by
  obtain ⟨k1, k2⟩ := gre_good h
  obtain ⟨_, _, _, k4, k5, _⟩ := best_good h
  have e0 : gpB n cs = ⟨(grF cs n.toNat).toArray⟩ := by unfold gpB; rw [h]; rfl
  have e : (gpB n cs).data.toList = grF cs n.toNat := by rw [e0]
  have e2 : ((gpB n cs).size : Int) = n := by rw [← size_data, e]; exact k2
  have h1 : tcI (gpB n cs).data.toList cs = totI (grF cs n.toNat) cs := by
    rw [e]
    unfold tcI
    rw [k1, k2, h]; rfl
  have h2 := k5 _ k1 k2
  have h3 : lcI n cs = (choF n cs).least := rfl
  refine ⟨by omega, ?_⟩
  unfold ibB
  rw [e2, decide_eq_true (p := 0 ≤ tcI (gpB n cs).data.toList cs) (by omega), Bool.true_and]
theorem tc_pos {ps : List UInt8} {cs : List ByteArray} (h : 0 ≤ tcI ps cs) : parOk ps = true ∧ csOk (ps.length : Int) cs = true ∧ tcI ps cs = totI ps cs ∧ lcI (ps.length : Int) cs ≤ tcI ps cs := by
  cases h1 : parOk ps with
  | false =>
    have e : tcI ps cs = -1 := by unfold tcI; rw [h1]; rfl
    omega
  | true => cases h2 : csOk (ps.length : Int) cs with
    | false =>
      have e : tcI ps cs = -1 := by unfold tcI; rw [h1, h2]; rfl
      omega
    | true =>
      have e : tcI ps cs = totI ps cs := by unfold tcI; rw [h1, h2]; rfl
      refine ⟨rfl, rfl, e, ?_⟩
      rw [e]
      exact (best_good h2).2.2.2.2.1 ps h1 rfl
theorem tc_neg {ps : List UInt8} {cs : List ByteArray} (h : tcI ps cs < 0) : csOk (ps.length : Int) cs = false ∨ parOk ps = false := by
  cases h1 : parOk ps with
  | false => exact .inr rfl
  | true => cases h2 : csOk (ps.length : Int) cs with
    | false => exact .inl rfl
    | true =>
      have e : tcI ps cs = totI ps cs := by unfold tcI; rw [h1, h2]; rfl
      have := (tot_must ps cs (cs_cl h2 h1 rfl)).1
      omega
theorem cl_no_par {ps az : List UInt8} (h : parOk ps = false) : clOk ps az = false := by
  cases hb : clOk ps az with
  | false => rfl
  | true => rw [cl_par hb] at h; cases h
theorem totI_take (ps : List UInt8) (cs : List ByteArray) (k : Nat) (hk : k < cs.length) : totI ps (cs.take (k + 1)) = totI ps (cs.take k) + cioI (clM ps cs[k].data.toList) := by rw [take_snoc cs k hk, totI_snoc]
end Go.Proofs.YthgcoocgeekdnaaGreatDoor
