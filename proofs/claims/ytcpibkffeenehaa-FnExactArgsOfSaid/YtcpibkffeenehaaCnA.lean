import Derived.Test.YtcpibkffeenehaaPm
import Derived.Test.YtcpibkffeenehaaReaders
import Derived.Test.YtcpibkffeenehaaSource
import Derived.Test.YtcpibkffeenehaaNamesIn
import Derived.Test.YtcpibkffeenehaaApp
import Derived.Test.YtcpibkffeenehaaHold
import Derived.Test.YtcpibkffeenehaaHar
import Derived.Test.YtcpibkffeenehaaMarkT
import Derived.LaidEqlPtr
import Derived.Test.YtcpibkffeenehaaTail
import Derived.Test.YtcpibkffeenehaaNames
import Derived.Test.YtcpibkffeenehaaRange
import Derived.Deep.AppendLies
import Derived.Scope
import Derived.WalkMore
import Derived.Test.YtcpibkffeenehaaRow
import Derived.Test.YtcpibkffeenehaaCnB
import Derived.Test.YtcpibkffeenehaaClP
import Derived.Test.YtcpibkffeenehaaSp1
namespace Go.PW

/-- the chain from s on: nx says whence a value comes, none where it stays -/
def orb (nx : Nat → Option Nat) (s : Nat) : Nat → Option Nat
  | 0 => some s
  | k + 1 => (orb nx s k).bind nx
def wayF (nx : Nat → Option Nat) : Nat → List Nat → Option Nat → List Nat
  | 0, acc, _ => acc
  | _ + 1, acc, none => acc
  | n + 1, acc, some i => if i ∈ acc then acc else wayF nx n (acc ++ [i]) (nx i)
def way (nx : Nat → Option Nat) (s : Nat) : List Nat := wayF nx 20 [] (some s)
structure Nice (nx : Nat → Option Nat) : Prop where
  lt : ∀ i j, nx i = some j → j < 19
  irr : ∀ i, nx i ≠ some i
  low : ∀ i j, nx i = some j → i < 9

variable {nx : Nat → Option Nat}
theorem nodup_le : ∀ (l : List Nat) (n : Nat), l.Nodup → (∀ a ∈ l, a < n) → l.length ≤ n := by
  intro l n h1 h2
  have := Go.PM.nodup_le l (List.range n) h1 (fun a ha => List.mem_range.2 (h2 a ha))
  simpa using this

/-- what an accumulator of the way holds -/
structure Acc (nx : Nat → Option Nat) (s : Nat) (acc : List Nat) : Prop where
  at_ : ∀ j, j < acc.length → acc[j]? = orb nx s j
  nodup : acc.Nodup
  lt : ∀ a ∈ acc, a < 19
theorem Acc.nil (s : Nat) : Acc nx s [] := ⟨fun j h => by simp at h, List.nodup_nil, fun a h => by simp at h⟩
theorem orb_lt (hn : Nice nx) {s : Nat} (hs : s < 19) : ∀ k i, orb nx s k = some i → i < 19 := by
  intro k i h
  cases k with
  | zero => simp only [orb, Option.some.injEq] at h; omega
  | succ k =>
    simp only [orb, Option.bind_eq_some_iff] at h
    obtain ⟨j, _, h⟩ := h
    exact hn.lt j i h
theorem Acc.snoc (hn : Nice nx) {s : Nat} (hs : s < 19) {acc : List Nat} (h : Acc nx s acc) {i : Nat} (hi : orb nx s acc.length = some i) (hm : i ∉ acc) : Acc nx s (acc ++ [i]) := by
  refine ⟨fun j hj => ?_, ?_, fun a ha => ?_⟩
  · rcases Nat.lt_or_ge j acc.length with h1 | h1
    · rw [List.getElem?_append_left h1]; exact h.at_ j h1
    · have : j = acc.length := by simp at hj; omega
      subst this
      rw [List.getElem?_append_right (by omega)]; simp [hi]
  · rw [List.nodup_append]
    exact ⟨h.nodup, by simp, fun a ha b hb e => by simp at hb; subst hb; subst e; exact hm ha⟩
  · rw [List.mem_append] at ha
    rcases ha with ha | ha
    · exact h.lt a ha
    · simp at ha; subst ha; exact orb_lt hn hs _ _ hi
theorem Acc.len {s : Nat} {acc : List Nat} (h : Acc nx s acc) : acc.length ≤ 19 := nodup_le acc 19 h.nodup h.lt

/-- what the whole way is -/
structure Rho (nx : Nat → Option Nat) (s : Nat) (w : List Nat) : Prop extends Acc nx s w where
  pos : 0 < w.length
  last : orb nx s w.length = none ∨ ∃ mu, mu < w.length ∧ orb nx s w.length = orb nx s mu
theorem wayF_rho (hn : Nice nx) {s : Nat} (hs : s < 19) : ∀ (n : Nat) (acc : List Nat), Acc nx s acc → acc.length + n = 20 → Rho nx s (wayF nx n acc (orb nx s acc.length)) := by
  intro n
  induction n with
  | zero => intro acc h hl; have := h.len; omega
  | succ n ih =>
    intro acc h hl
    cases hc : orb nx s acc.length with
    | none =>
      show Rho nx s acc
      have : acc.length ≠ 0 := by intro h0; rw [h0] at hc; simp [orb] at hc
      exact ⟨h, by omega, .inl hc⟩
    | some i =>
      show Rho nx s (if i ∈ acc then acc else wayF nx n (acc ++ [i]) (nx i))
      by_cases hm : i ∈ acc
      · rw [if_pos hm]
        obtain ⟨mu, hmu⟩ := List.getElem?_of_mem hm
        have hlt := (List.getElem?_eq_some_iff.1 hmu).1
        exact ⟨h, by omega, .inr ⟨mu, hlt, by rw [hc, ← h.at_ mu hlt, hmu]⟩⟩
      · rw [if_neg hm]
        have := ih (acc ++ [i]) (h.snoc hn hs hc hm) (by simp; omega)
        rw [show (acc ++ [i]).length = acc.length + 1 by simp] at this
        simpa only [orb, hc, Option.bind_some] using this
theorem way_rho (hn : Nice nx) {s : Nat} (hs : s < 19) : Rho nx s (way nx s) := wayF_rho hn hs 20 [] (Acc.nil s) rfl
/-- the step of a walk of the way -/
theorem wayF_step {n : Nat} {acc : List Nat} {i : Nat} (hm : i ∉ acc) : wayF nx (n + 1) acc (some i) = wayF nx n (acc ++ [i]) (nx i) := by
  show (if i ∈ acc then acc else _) = _; rw [if_neg hm]
theorem wayF_hit {n : Nat} {acc : List Nat} {i : Nat} (hm : i ∈ acc) : wayF nx n acc (some i) = acc := by
  cases n with
  | zero => rfl
  | succ n => show (if i ∈ acc then acc else _) = _; rw [if_pos hm]
theorem wayF_none {n : Nat} {acc : List Nat} : wayF nx n acc none = acc := by cases n <;> rfl

theorem orb_add (s : Nat) (a b : Nat) : orb nx s (a + b) = (orb nx s a).bind fun i => orb nx i b := by
  induction b with
  | zero => simp only [Nat.add_zero, orb]; cases orb nx s a <;> rfl
  | succ b ih =>
    rw [← Nat.add_assoc]; simp only [orb]; rw [ih]
    cases orb nx s a <;> rfl
theorem orb_shift {s a b : Nat} (h : orb nx s a = orb nx s b) (k : Nat) : orb nx s (a + k) = orb nx s (b + k) := by
  rw [orb_add, orb_add, h]
theorem orb_none {s a : Nat} (h : orb nx s a = none) (k : Nat) : orb nx s (a + k) = none := by rw [orb_add, h]; rfl
theorem orb_none_ge {s a b : Nat} (h : orb nx s a = none) (hb : a ≤ b) : orb nx s b = none := by
  have := orb_none h (b - a); rwa [show a + (b - a) = b by omega] at this
section
variable {s : Nat} {w : List Nat}
theorem Rho.some_ (h : Rho nx s w) {j : Nat} (hj : j < w.length) : orb nx s j = some w[j] := by rw [← h.at_ j hj, List.getElem?_eq_getElem hj]
theorem Rho.inj (h : Rho nx s w) {i j : Nat} (hi : i < w.length) (hj : j < w.length) (e : orb nx s i = orb nx s j) : i = j := by
  rw [h.some_ hi, h.some_ hj] at e
  exact (List.getElem_inj h.nodup).1 (Option.some.inj e)
theorem Rho.unique (h : Rho nx s w) {v : List Nat} (k : Rho nx s v) : w = v := by
  have key : ∀ {w v : List Nat}, Rho nx s w → Rho nx s v → ¬ w.length < v.length := by
    intro w v h k hlt
    rcases h.last with h1 | ⟨mu, hmu, h1⟩
    · rw [k.some_ hlt] at h1; cases h1
    · have := k.inj hlt (by omega) h1; omega
  have hl : w.length = v.length := by have := key h k; have := key k h; omega
  apply List.ext_getElem?
  intro j
  rcases Nat.lt_or_ge j w.length with h1 | h1
  · rw [h.at_ j h1, k.at_ j (by omega)]
  · rw [List.getElem?_eq_none h1, List.getElem?_eq_none (by omega)]
/-- every element of the chain is one of the way's, behind the ring's start if it was there -/
theorem Rho.fold (h : Rho nx s w) {mu : Nat} (hmu : mu < w.length) (e : orb nx s w.length = orb nx s mu) : ∀ k, ∃ p, p < w.length ∧ orb nx s k = orb nx s p ∧ (k < w.length → p = k) ∧ (mu ≤ k → mu ≤ p) := by
  intro k
  induction k with
  | zero => exact ⟨0, h.pos, rfl, fun _ => rfl, fun h => h⟩
  | succ k ih =>
    obtain ⟨p, h1, h2, h3, h4⟩ := ih
    by_cases hl : p + 1 < w.length
    · refine ⟨p + 1, hl, by simp only [orb]; rw [h2], fun hk => by rw [h3 (by omega)], fun hk => ?_⟩
      by_cases hkm : mu ≤ k
      · have := h4 hkm; omega
      · have := h3 (by omega); omega
    · refine ⟨mu, hmu, ?_, fun hk => ?_, fun _ => Nat.le_refl _⟩
      · have : p + 1 = w.length := by omega
        rw [← e, ← this]; simp only [orb]; rw [h2]
      · have := h3 (by omega); omega
theorem Rho.later (h : Rho nx s w) {mu : Nat} (hmu : mu < w.length) (e : orb nx s w.length = orb nx s mu) {j k : Nat} (hj : j < mu) (hk : mu ≤ k) : orb nx s j ≠ orb nx s k := by
  obtain ⟨p, h1, h2, _, h4⟩ := h.fold hmu e k
  intro e2
  rw [h2] at e2
  have := h.inj (by omega) h1 e2
  have := h4 hk; omega

/-- a spot on a ring -/
def OnR (nx : Nat → Option Nat) (s : Nat) : Prop := ∃ k, 0 < k ∧ orb nx s k = some s
theorem Rho.onR (h : Rho nx s w) : OnR nx s ↔ orb nx s w.length = some s := by
  constructor
  · rintro ⟨k, hk, e⟩
    rcases h.last with h1 | ⟨mu, hmu, h1⟩
    · rcases Nat.lt_or_ge k w.length with h2 | h2
      · have := h.inj h2 h.pos (by rw [e]; rfl); omega
      · rw [orb_none_ge h1 h2] at e; cases e
    · rcases Nat.eq_zero_or_pos mu with h0 | h0
      · subst h0; rw [h1]; rfl
      · exfalso
        rcases Nat.lt_or_ge k w.length with h2 | h2
        · have := h.inj h2 h.pos (by rw [e]; rfl); omega
        · exact h.later hmu h1 h0 (show mu ≤ k by omega) (by rw [e]; rfl)
  · intro e; exact ⟨_, h.pos, e⟩
/-- the way runs into its ring at mu -/
theorem Rho.ring_at (h : Rho nx s w) {mu : Nat} (hmu : mu < w.length) (e : orb nx s w.length = orb nx s mu) {j i : Nat} (hi : orb nx s j = some i) : OnR nx i ↔ mu ≤ j := by
  constructor
  · rintro ⟨k, hk, e2⟩
    rcases Nat.lt_or_ge j mu with h1 | h1
    · exfalso
      -- i comes again and again, so also behind mu
      have h2 : ∀ t, orb nx s (j + k * t) = some i := by
        intro t
        induction t with
        | zero => simpa using hi
        | succ t ih => rw [Nat.mul_succ, ← Nat.add_assoc, orb_add, ih]; exact e2
      have h3 := h2 mu
      have h4 : mu ≤ j + k * mu := by have := Nat.le_mul_of_pos_left mu hk; omega
      exact h.later hmu e h1 h4 (by rw [hi, h3])
    · exact h1
  · intro hj
    obtain ⟨p, h1, h2, _, h4⟩ := h.fold hmu e j
    have hp := h4 hj
    refine ⟨w.length - mu, by omega, ?_⟩
    have h5 := orb_shift (nx := nx) (s := s) e (p - mu)
    rw [show mu + (p - mu) = p by omega, ← h2, hi, show w.length + (p - mu) = p + (w.length - mu) by omega, orb_add, ← h2, hi] at h5
    exact h5
theorem Rho.no_ring (_h : Rho nx s w) (e : orb nx s w.length = none) {j i : Nat} (hi : orb nx s j = some i) : ¬ OnR nx i := by
  rintro ⟨k, hk, e2⟩
  have h2 : ∀ t, orb nx s (j + k * t) = some i := by
    intro t
    induction t with
    | zero => simpa using hi
    | succ t ih => rw [Nat.mul_succ, ← Nat.add_assoc, orb_add, ih]; exact e2
  have h3 := h2 w.length
  have h4 : w.length ≤ j + k * w.length := by have := Nat.le_mul_of_pos_left w.length hk; omega
  rw [orb_none_ge e h4] at h3; cases h3
end
end Go.PW
namespace Go.PW
variable {nx : Nat → Option Nat} {s : Nat} {w : List Nat}
/-- where the way to a ring or an end stops -/
structure Stops (nx : Nat → Option Nat) (s D : Nat) : Prop where
  lt : D ≤ 19
  before : ∀ j, j < D → ∃ i t, orb nx s j = some i ∧ nx i = some t ∧ ¬ OnR nx i
  at_ : ∃ i, orb nx s D = some i ∧ (nx i = none ∨ OnR nx i)
theorem Rho.step (h : Rho nx s w) {j : Nat} (hj : j + 1 < w.length) : ∃ i t, orb nx s j = some i ∧ nx i = some t ∧ orb nx s (j + 1) = some t := by
  have h1 := h.some_ (j := j) (by omega)
  have h2 := h.some_ hj
  refine ⟨_, _, h1, ?_, h2⟩
  have : orb nx s (j + 1) = (orb nx s j).bind nx := rfl
  rw [h1, h2] at this
  exact this.symm
theorem Rho.stops (h : Rho nx s w) : ∃ D, Stops nx s D ∧ ((orb nx s w.length = none ∧ D + 1 = w.length) ∨ (D < w.length ∧ orb nx s w.length = orb nx s D)) := by
  have hl := h.len
  have hp := h.pos
  rcases h.last with h1 | ⟨mu, hmu, h1⟩
  · refine ⟨w.length - 1, ⟨by omega, fun j hj => ?_, ?_⟩, .inl ⟨h1, by omega⟩⟩
    · obtain ⟨i, t, e1, e2, e3⟩ := h.step (j := j) (by omega)
      exact ⟨i, t, e1, e2, h.no_ring h1 e1⟩
    · refine ⟨_, h.some_ (j := w.length - 1) (by omega), .inl ?_⟩
      have h2 := h.some_ (j := w.length - 1) (by omega)
      have : orb nx s (w.length - 1 + 1) = (orb nx s (w.length - 1)).bind nx := rfl
      rw [show w.length - 1 + 1 = w.length by omega, h1, h2] at this
      exact this.symm
  · refine ⟨mu, ⟨by omega, fun j hj => ?_, ?_⟩, .inr ⟨hmu, h1⟩⟩
    · obtain ⟨i, t, e1, e2, e3⟩ := h.step (j := j) (by omega)
      exact ⟨i, t, e1, e2, fun hr => by have := (h.ring_at hmu h1 e1).1 hr; omega⟩
    · exact ⟨_, h.some_ hmu, .inr ((h.ring_at hmu h1 (h.some_ hmu)).2 (Nat.le_refl _))⟩
theorem Stops.unique {D E : Nat} (h : Stops nx s D) (k : Stops nx s E) : D = E := by
  have key : ∀ {D E : Nat}, Stops nx s D → Stops nx s E → ¬ D < E := by
    intro D E h k hlt
    obtain ⟨i, e1, e2⟩ := h.at_
    obtain ⟨i', t, e3, e4, e5⟩ := k.before D hlt
    rw [e1] at e3; cases e3
    rcases e2 with e2 | e2
    · rw [e4] at e2; cases e2
    · exact e5 e2
  have := key h k; have := key k h; omega

/-- the pointers meet after at most 19 rounds -/
theorem Rho.meets (h : Rho nx s w) : ∃ k, 1 ≤ k ∧ k ≤ 19 ∧ orb nx s k = orb nx s (2 * k) := by
  have hl := h.len
  rcases h.last with h1 | ⟨mu, hmu, h1⟩
  · exact ⟨19, by omega, by omega, by rw [orb_none_ge h1 (by omega), orb_none_ge h1 (by omega)]⟩
  · obtain ⟨lam, hlam⟩ : ∃ lam, lam = w.length - mu := ⟨_, rfl⟩
    have per : ∀ t x, mu ≤ x → orb nx s (x + lam * t) = orb nx s x := by
      intro t x hx
      induction t with
      | zero => rfl
      | succ t ih =>
        rw [Nat.mul_succ, ← Nat.add_assoc, ← ih]
        have := orb_shift (nx := nx) (s := s) h1 (x + lam * t - mu)
        rw [show w.length + (x + lam * t - mu) = x + lam * t + lam by omega, show mu + (x + lam * t - mu) = x + lam * t by omega] at this
        exact this
    have hd := Nat.div_add_mod mu lam
    have hm := Nat.mod_lt mu (show 0 < lam by omega)
    refine ⟨lam * (mu / lam + 1), ?_, ?_, ?_⟩
    · rw [Nat.mul_add]; omega
    · rw [Nat.mul_add]; omega
    · rw [Nat.two_mul, per _ _ (by rw [Nat.mul_add]; omega)]
/-- what the meeting of the two pointers is -/
def Meet (nx : Nat → Option Nat) (s : Nat) (m : Option Nat) : Prop := (m = none ∧ ∃ k, orb nx s k = none) ∨ ∃ k, 0 < k ∧ m = orb nx s k ∧ orb nx s k = orb nx s (2 * k)
/-- what the entrance of the ring is -/
def Ent (nx : Nat → Option Nat) (s : Nat) (e : Option Nat) : Prop := ∃ D, Stops nx s D ∧ ((e = none ∧ ∃ k, orb nx s k = none) ∨ (e = orb nx s D ∧ ∀ k, orb nx s k ≠ none))
theorem Rho.ends (h : Rho nx s w) {k : Nat} (hk : orb nx s k = none) : orb nx s w.length = none := by
  rcases h.last with h1 | ⟨mu, hmu, h1⟩
  · exact h1
  · obtain ⟨p, h2, h3, _⟩ := h.fold hmu h1 k
    rw [h3, h.some_ h2] at hk; cases hk
/-- the second walk of the pointers -/
theorem Rho.second (h : Rho nx s w) {m : Option Nat} (hm : Meet nx s m) : (m = none ∧ ∃ k, orb nx s k = none) ∨ ∃ k D, Stops nx s D ∧ m = orb nx s k ∧ (∀ j, j < D → orb nx s j ≠ orb nx s (k + j)) ∧ orb nx s D = orb nx s (k + D) ∧ ∀ i, orb nx s i ≠ none := by
  rcases hm with hm | ⟨k, hk, rfl, e⟩
  · exact .inl hm
  · by_cases h0 : orb nx s k = none
    · exact .inl ⟨h0, _, h0⟩
    · right
      obtain ⟨D, hD, hc⟩ := h.stops
      rcases hc with ⟨h1, h2⟩ | ⟨h1, h2⟩
      · exfalso
        have hk1 : k < w.length := Nat.lt_of_not_ge fun hge => h0 (orb_none_ge h1 hge)
        have hk2 : 2 * k < w.length := Nat.lt_of_not_ge fun hge => h0 (by rw [e]; exact orb_none_ge h1 hge)
        have := h.inj hk1 hk2 e; omega
      · have hkD : D ≤ k := by
          rcases Nat.lt_or_ge k D with hlt | hge
          · exfalso
            by_cases h3 : 2 * k < w.length
            · have := h.inj (by omega) h3 e; omega
            · exact h.later h1 h2 hlt (show D ≤ 2 * k by omega) e
          · exact hge
        refine ⟨k, D, hD, rfl, fun j hj => h.later h1 h2 hj (by omega), ?_, fun i hi => ?_⟩
        · -- some m with orb (k + m) = orb D
          obtain ⟨lam, hlam⟩ : ∃ lam, lam = w.length - D := ⟨_, rfl⟩
          have per : ∀ t x, D ≤ x → orb nx s (x + lam * t) = orb nx s x := by
            intro t x hx
            induction t with
            | zero => rfl
            | succ t ih =>
              rw [Nat.mul_succ, ← Nat.add_assoc, ← ih]
              have := orb_shift (nx := nx) (s := s) h2 (x + lam * t - D)
              rw [show w.length + (x + lam * t - D) = x + lam * t + lam by omega, show D + (x + lam * t - D) = x + lam * t by omega] at this
              exact this
          -- D + lam * k ≥ k, reached from k by m steps
          have hlk : k ≤ lam * k := Nat.le_mul_of_pos_left k (by omega)
          have e1 := per k D (Nat.le_refl _)
          have e2 := orb_shift (nx := nx) (s := s) e (D + lam * k - k)
          rw [show k + (D + lam * k - k) = D + lam * k by omega, show 2 * k + (D + lam * k - k) = k + D + lam * k by omega, e1, per k (k + D) (by omega)] at e2
          exact e2
        · have := h.ends hi
          rw [h2, h.some_ h1] at this; cases this
theorem Ent.onR (h : Rho nx s w) {e : Option Nat} (he : Ent nx s e) : e = some s ↔ OnR nx s := by
  obtain ⟨D, hD, hc⟩ := he
  rcases hc with ⟨rfl, k, hk⟩ | ⟨rfl, hall⟩
  · constructor
    · intro h; cases h
    · intro hr; exact absurd hr (h.no_ring (h.ends hk) (j := 0) rfl)
  · obtain ⟨E, hE, hc⟩ := h.stops
    rcases hc with ⟨h1, _⟩ | ⟨h1, h2⟩
    · exact absurd h1 (hall _)
    · have := hD.unique hE
      subst this
      rw [h.ring_at h1 h2 (j := 0) (i := s) rfl]
      constructor
      · intro e
        have := h.inj h1 h.pos (by rw [e]; rfl)
        omega
      · intro h0
        have : D = 0 := by omega
        subst this; rfl
/-- the entrance does not come before -/
theorem Ent.before (h : Rho nx s w) {e : Option Nat} (he : Ent nx s e) {D : Nat} (hD : Stops nx s D) : (∀ j, j < D → orb nx s j ≠ e) ∧ (orb nx s D = e ∨ ∃ i, orb nx s D = some i ∧ nx i = none) := by
  obtain ⟨E, hE, hc⟩ := he
  have := hD.unique hE
  subst this
  rcases hc with ⟨rfl, k, hk⟩ | ⟨rfl, hall⟩
  · refine ⟨fun j hj => ?_, ?_⟩
    · obtain ⟨i, t, e1, _⟩ := hD.before j hj
      rw [e1]; intro h; cases h
    · obtain ⟨i, e1, e2⟩ := hD.at_
      exact .inr ⟨i, e1, e2.resolve_right (h.no_ring (h.ends hk) e1)⟩
  · refine ⟨fun j hj e => ?_, .inl rfl⟩
    obtain ⟨i, t, e1, _, e3⟩ := hD.before j hj
    obtain ⟨i', e4, e5⟩ := hD.at_
    rw [e1, e4] at e; cases e
    rcases e5 with e5 | e5
    · exact hall (D + 1) (by simp only [orb]; rw [e4]; exact e5)
    · exact e3 e5
end Go.PW
namespace Go.PW
open Go.PM Go.RowKit Go.Lib

def spotsL : List UInt8 := [97, 98, 99, 100, 101, 102, 65, 66, 67, 48, 49, 50, 51, 52, 53, 54, 55, 56, 57]
def ch (i : Nat) : UInt8 := spotsL.getD i 0
def sn (i : Nat) : ByteArray := ⟨#[ch i]⟩
def sidx (s : ByteArray) : Nat := (indexByte spotsL (s.data.toList.headD 0)).toNat
def txt (l : List Nat) : ByteArray := ⟨(l.map ch).toArray⟩
theorem sn_nm (i : Nat) (h : i < 9) : sn i = nm i := by
  match i, h with
  | 0, _ | 1, _ | 2, _ | 3, _ | 4, _ | 5, _ | 6, _ | 7, _ | 8, _ => rfl
theorem ch_all : ∀ i, i < 19 → (indexByte spotsL (ch i)) = (i : Nat) ∧ isS (sn i) = true ∧ isP (sn i) = decide (i < 9) ∧ isD (sn i) = decide (9 ≤ i) := by
  intro i h
  rcases (show i = 0 ∨ i = 1 ∨ i = 2 ∨ i = 3 ∨ i = 4 ∨ i = 5 ∨ i = 6 ∨ i = 7 ∨ i = 8 ∨ i = 9 ∨ i = 10 ∨ i = 11 ∨ i = 12 ∨ i = 13 ∨ i = 14 ∨ i = 15 ∨ i = 16 ∨ i = 17 ∨ i = 18 by omega) with rfl | rfl | rfl | rfl | rfl | rfl | rfl | rfl | rfl | rfl | rfl | rfl | rfl | rfl | rfl | rfl | rfl | rfl | rfl <;> decide +kernel
theorem ch_inj {i j : Nat} (hi : i < 19) (hj : j < 19) (e : ch i = ch j) : i = j := by
  have h1 := (ch_all i hi).1
  have h2 := (ch_all j hj).1
  rw [e, h2] at h1; omega
theorem sn_inj {i j : Nat} (hi : i < 19) (hj : j < 19) (e : sn i = sn j) : i = j := by
  refine ch_inj hi hj ?_
  have := congrArg (fun s => s.data.toList.headD 0) e
  simpa [sn] using this
theorem sidx_sn {i : Nat} (hi : i < 19) : sidx (sn i) = i := by
  have := (ch_all i hi).1
  unfold sidx sn
  show (indexByte spotsL (ch i)).toNat = i
  rw [this]; rfl
theorem sidx_one (c : UInt8) (h : isS ⟨#[c]⟩ = true) : sidx ⟨#[c]⟩ < 19 ∧ sn (sidx ⟨#[c]⟩) = ⟨#[c]⟩ := by
  have hm : c ∈ spotsL := by
    unfold isS at h
    rw [Bool.or_eq_true] at h
    rcases h with h | h
    · have : c ∈ placesL := by simpa [isP] using h
      simp only [placesL, List.mem_cons, List.not_mem_nil, or_false] at this
      simp only [spotsL, List.mem_cons, List.not_mem_nil, or_false]
      rcases this with h | h | h | h | h | h | h | h | h <;> simp [h]
    · have : 48 ≤ c.toNat ∧ c.toNat ≤ 57 := by simpa [isD] using h
      obtain ⟨n, hn⟩ : ∃ n, c.toNat = n := ⟨_, rfl⟩
      have hc : c = UInt8.ofNat n := by rw [← hn]; simp
      subst hc
      rw [hn] at this
      have : n = 48 ∨ n = 49 ∨ n = 50 ∨ n = 51 ∨ n = 52 ∨ n = 53 ∨ n = 54 ∨ n = 55 ∨ n = 56 ∨ n = 57 := by omega
      rcases this with rfl | rfl | rfl | rfl | rfl | rfl | rfl | rfl | rfl | rfl <;> decide
  simp only [spotsL, List.mem_cons, List.not_mem_nil, or_false] at hm
  rcases hm with rfl | rfl | rfl | rfl | rfl | rfl | rfl | rfl | rfl | rfl | rfl | rfl | rfl | rfl | rfl | rfl | rfl | rfl | rfl <;> decide +kernel
theorem sidx_spec {s : ByteArray} (h : isS s = true) : sidx s < 19 ∧ sn (sidx s) = s := by
  obtain ⟨c, rfl⟩ := one_of_size (isS_size h)
  exact sidx_one c h
theorem sidx_pidx {s : ByteArray} (h : isP s = true) : sidx s = pidx s := by
  have h1 := pidx_spec h
  have h2 : isS s = true := by unfold isS; rw [h]; rfl
  have h3 := sidx_spec h2
  refine sn_inj h3.1 (by omega) ?_
  rw [h3.2, sn_nm _ h1.1, h1.2]
theorem isP_sidx {s : ByteArray} (h : isS s = true) : isP s = decide (sidx s < 9) := by
  have h1 := sidx_spec h
  have h2 := (ch_all _ h1.1).2.2.1
  rwa [h1.2] at h2
def strLen : Value → Nat
  | .string t => t.size
  | _ => 0
theorem txt_nil : txt [] = ⟨#[]⟩ := rfl
theorem txt_one (i : Nat) : txt [i] = sn i := rfl
theorem txt_append (l m : List Nat) : txt (l ++ m) = txt l ++ txt m := by
  apply ByteArray.ext
  rw [ByteArray.data_append]
  simp [txt]
theorem txt_snoc (l : List Nat) (i : Nat) : txt (l ++ [i]) = txt l ++ sn i := txt_append l [i]
theorem txt_size (l : List Nat) : (txt l).size = l.length := by simp [txt, ByteArray.size]
theorem txt_list (l : List Nat) : (txt l).data.toList = l.map ch := by simp [txt]
theorem txt_mem {l : List Nat} (hl : ∀ a ∈ l, a < 19) {i : Nat} (hi : i < 19) : ch i ∈ (txt l).data.toList ↔ i ∈ l := by
  rw [txt_list, List.mem_map]
  constructor
  · rintro ⟨j, hj, e⟩
    have := ch_inj (hl j hj) hi e
    exact this ▸ hj
  · intro h; exact ⟨i, h, rfl⟩
theorem txt_inj : ∀ {l m : List Nat}, (∀ a ∈ l, a < 19) → (∀ a ∈ m, a < 19) → txt l = txt m → l = m := by
  intro l m hl hm e
  have h : l.map ch = m.map ch := by rw [← txt_list, ← txt_list, e]
  clear e
  induction l generalizing m with
  | nil => cases m with
    | nil => rfl
    | cons b m => simp at h
  | cons a l ih => cases m with
    | nil => simp at h
    | cons b m =>
      rw [List.map_cons, List.map_cons, List.cons.injEq] at h
      have := ch_inj (hl a (by simp)) (hm b (by simp)) h.1
      rw [this, ih (fun x hx => hl x (by simp [hx])) (fun x hx => hm x (by simp [hx])) h.2]

/-- a table whose sources are places or digits -/
def SV (f : Nat → ByteArray) : Prop := ∀ p, p < 9 → isS (srcT f p) = true
theorem SV_tab {xs : List Mv} (h : MV xs) : SV (tabOf xs) := by
  intro p hp
  rw [srcM_nm h hp]
  unfold srcM
  cases hf : xs.find? (fun m => decide (m.1 = nm p)) with
  | none => show isS (nm p) = true; unfold isS; rw [isP_nm hp]; rfl
  | some m =>
    have := h.1 m (List.mem_of_find?_eq_some hf)
    unfold mok at this; rw [Bool.and_eq_true] at this
    exact this.2
/-- the spot whence the value of a place comes -/
def sx (f : Nat → ByteArray) (p : Nat) : Nat := sidx (srcT f p)
def nxT (f : Nat → ByteArray) (i : Nat) : Option Nat := if i < 9 then (if sx f i = i then none else some (sx f i)) else none
theorem sx_lt {f : Nat → ByteArray} (h : SV f) {p : Nat} (hp : p < 9) : sx f p < 19 ∧ sn (sx f p) = srcT f p := sidx_spec (h p hp)
theorem nice {f : Nat → ByteArray} (h : SV f) : Nice (nxT f) := by
  refine ⟨fun i j e => ?_, fun i e => ?_, fun i j e => ?_⟩
  all_goals
    unfold nxT at e
    by_cases h9 : i < 9
    · rw [if_pos h9] at e
      by_cases h1 : sx f i = i
      · rw [if_pos h1] at e; cases e
      · rw [if_neg h1, Option.some.injEq] at e
        first | exact h9 | exact absurd e h1 | exact e ▸ (sx_lt h h9).1
    · rw [if_neg h9] at e; cases e
theorem nxT_some {f : Nat → ByteArray} {i : Nat} (hi : i < 9) (h : sx f i ≠ i) : nxT f i = some (sx f i) := by
  unfold nxT; rw [if_pos hi, if_neg h]
theorem nxT_stay {f : Nat → ByteArray} {i : Nat} (hi : i < 9) (h : sx f i = i) : nxT f i = none := by
  unfold nxT; rw [if_pos hi, if_pos h]
theorem nxT_digit {f : Nat → ByteArray} {i : Nat} (hi : ¬ i < 9) : nxT f i = none := by
  unfold nxT; rw [if_neg hi]
theorem src_self {f : Nat → ByteArray} (h : SV f) {i : Nat} (hi : i < 9) : srcT f i = nm i ↔ sx f i = i := by
  have h1 := sx_lt h hi
  rw [← h1.2, ← sn_nm i hi]
  exact ⟨fun e => sn_inj h1.1 (by omega) e, fun e => by rw [e]⟩
end Go.PW
namespace Go.PW
open Go.PM
variable {nx : Nat → Option Nat}
theorem least_ex {P : Nat → Prop} : ∀ n, P n → ∃ m, P m ∧ ∀ k, P k → m ≤ k := by
  intro n
  induction n using Nat.strongRecOn with
  | ind n ih =>
    intro h
    by_cases h2 : ∃ m, m < n ∧ P m
    · obtain ⟨m, h3, h4⟩ := h2; exact ih m h3 h4
    · exact ⟨n, h, fun k hk => Nat.le_of_not_lt fun hlt => h2 ⟨k, hlt, hk⟩⟩
open Classical in
/-- the least number of which P holds -/
noncomputable def least (P : Nat → Prop) : Nat := if h : ∃ m, P m ∧ ∀ k, P k → m ≤ k then Classical.choose h else 0
theorem least_spec {P : Nat → Prop} (h : ∃ n, P n) : P (least P) ∧ ∀ k, P k → least P ≤ k := by
  obtain ⟨n, hn⟩ := h
  have hx := least_ex n hn
  unfold least
  rw [dif_pos hx]
  exact Classical.choose_spec hx
/-- what a walk along the way holds: the spots till i, the last of them -/
structure WayI (nx : Nat → Option Nat) (s : Nat) (acc : List Nat) (i n : Nat) : Prop extends Acc nx s acc where
  pos : 0 < acc.length
  cur : orb nx s (acc.length - 1) = some i
  way_ : way nx s = wayF nx n acc (nx i)
  len : acc.length + n = 20
theorem WayI.start (nx : Nat → Option Nat) {s : Nat} (hs : s < 19) : WayI nx s [s] s 19 := by
  refine ⟨⟨fun j h => ?_, by simp, fun a ha => ?_⟩, by simp, rfl, ?_, rfl⟩
  · have : j = 0 := by simp at h; omega
    subst this; rfl
  · simp at ha; omega
  · show wayF nx 20 [] (some s) = _
    rw [wayF_step (by simp)]; rfl
section
variable {s : Nat} {acc : List Nat} {i n : Nat}
theorem WayI.next_orb (h : WayI nx s acc i n) : orb nx s acc.length = nx i := by
  have : orb nx s (acc.length - 1 + 1) = (orb nx s (acc.length - 1)).bind nx := rfl
  rw [show acc.length - 1 + 1 = acc.length by have := h.pos; omega, h.cur] at this
  exact this
theorem WayI.mem (h : WayI nx s acc i n) : i ∈ acc := by
  have h1 := h.at_ (acc.length - 1) (by have := h.pos; omega)
  rw [h.cur] at h1
  exact List.mem_of_getElem? h1
theorem WayI.ilt (h : WayI nx s acc i n) : i < 19 := h.lt i h.mem
theorem WayI.stop (h : WayI nx s acc i n) (e : nx i = none) : way nx s = acc := by rw [h.way_, e, wayF_none]
theorem WayI.hit (h : WayI nx s acc i n) {j : Nat} (e : nx i = some j) (hm : j ∈ acc) : way nx s = acc := by rw [h.way_, e, wayF_hit hm]
theorem WayI.next (hn : Nice nx) (hs : s < 19) (h : WayI nx s acc i n) {j : Nat} (e : nx i = some j) (hm : j ∉ acc) : ∃ n', n = n' + 1 ∧ WayI nx s (acc ++ [j]) j n' := by
  have hl := h.toAcc.len
  have ho := h.next_orb
  rw [e] at ho
  obtain ⟨n', rfl⟩ : ∃ n', n = n' + 1 := ⟨n - 1, by have := h.len; omega⟩
  have h2 := h.toAcc.snoc hn hs ho hm
  have h3 := h2.len
  simp at h3
  refine ⟨n', rfl, h2, by simp, by simpa using ho, ?_, by have := h.len; simp; omega⟩
  rw [h.way_, e, wayF_step hm]
end

/-- the way as it is told by names: whence a place's value comes, itself where it stays -/
theorem way_src {f : Nat → ByteArray} (_hf : SV f) {s : Nat} {acc : List Nat} {i n : Nat} (h : WayI (nxT f) s acc i n) (hi : i < 9) (hm : sx f i ∈ acc) : way (nxT f) s = acc := by
  by_cases e : sx f i = i
  · exact h.stop (nxT_stay hi e)
  · exact h.hit (nxT_some hi e) hm
theorem way_go {f : Nat → ByteArray} (hf : SV f) {s : Nat} (hs : s < 19) {acc : List Nat} {i n : Nat} (h : WayI (nxT f) s acc i n) (hi : i < 9) (hm : sx f i ∉ acc) : ∃ n', n = n' + 1 ∧ WayI (nxT f) s (acc ++ [sx f i]) (sx f i) n' := by
  have e : sx f i ≠ i := fun e => hm (by rw [e]; exact h.mem)
  exact h.next (nice hf) hs (nxT_some hi e) hm

def onRb (nx : Nat → Option Nat) (s : Nat) : Bool := decide (orb nx s (way nx s).length = some s)
theorem onRb_iff (hn : Nice nx) {s : Nat} (hs : s < 19) : onRb nx s = true ↔ OnR nx s := by
  rw [(way_rho hn hs).onR]; simp [onRb]
/-- the ring at a spot, nothing where there is none -/
def ringL (nx : Nat → Option Nat) (s : Nat) : List Nat := if onRb nx s then way nx s else []
/-- the rings of the first k places -/
def ringsF (nx : Nat → Option Nat) : Nat → List (List Nat)
  | 0 => []
  | k + 1 => if onRb nx k = true ∧ k ∉ (ringsF nx k).flatten then ringsF nx k ++ [way nx k] else ringsF nx k
theorem ringsF_yes {k : Nat} (h1 : onRb nx k = true) (h2 : k ∉ (ringsF nx k).flatten) : ringsF nx (k + 1) = ringsF nx k ++ [way nx k] := by rw [ringsF, if_pos ⟨h1, h2⟩]
theorem ringsF_no {k : Nat} (h : ¬ (onRb nx k = true ∧ k ∉ (ringsF nx k).flatten)) : ringsF nx (k + 1) = ringsF nx k := by rw [ringsF, if_neg h]
theorem ringsF_lt (hn : Nice nx) : ∀ k, k ≤ 9 → (∀ a ∈ (ringsF nx k).flatten, a < 19) ∧ (ringsF nx k).length ≤ k ∧ (ringsF nx k).flatten.length ≤ 19 * k := by
  intro k
  induction k with
  | zero => intro _; exact ⟨by simp [ringsF], by simp [ringsF], by simp [ringsF]⟩
  | succ k ih =>
    intro hk
    obtain ⟨h1, h2, h3⟩ := ih (by omega)
    by_cases h : onRb nx k = true ∧ k ∉ (ringsF nx k).flatten
    · rw [ringsF_yes h.1 h.2]
      have hr := way_rho hn (show k < 19 by omega)
      have hl := hr.len
      refine ⟨fun a ha => ?_, by simp; omega, by simp; simp at h3; omega⟩
      simp only [List.flatten_append, List.mem_append] at ha
      rcases ha with ha | ha
      · exact h1 a ha
      · exact hr.lt a (by simpa using ha)
    · rw [ringsF_no h]; exact ⟨h1, by omega, by omega⟩
end Go.PW
namespace Go.Proofs.Ytcpibkffeenehaa
open Go.RowKit Go.PM Go.PW Go.Lib

end Go.Proofs.Ytcpibkffeenehaa
namespace Go.PW
open Go.PM
/-- where the way ends, and whether a ring goes round there -/
theorem ring_last {f : Nat → ByteArray} (hf : SV f) {s : Nat} (hs : s < 19) : ∃ i, (way (nxT f) s)[(way (nxT f) s).length - 1]? = some i ∧ i < 19 ∧ (onRb (nxT f) s = true ↔ 2 ≤ (way (nxT f) s).length ∧ i < 9 ∧ sx f i = s) := by
  have hn := nice hf
  have hr := way_rho hn hs
  have hp := hr.pos
  have h1 := hr.some_ (j := (way (nxT f) s).length - 1) (by omega)
  have h0 := hr.some_ hp
  refine ⟨_, List.getElem?_eq_getElem (by omega), hr.lt _ (List.getElem_mem _), ?_⟩
  generalize (way (nxT f) s)[(way (nxT f) s).length - 1]'(by omega) = i at *
  have h2 : orb (nxT f) s (way (nxT f) s).length = nxT f i := by
    have : orb (nxT f) s ((way (nxT f) s).length - 1 + 1) = (orb (nxT f) s ((way (nxT f) s).length - 1)).bind (nxT f) := rfl
    rw [show (way (nxT f) s).length - 1 + 1 = (way (nxT f) s).length by omega, h1] at this
    exact this
  unfold onRb
  rw [h2, decide_eq_true_eq]
  constructor
  · intro e
    have h9 := hn.low i s e
    have hi : i ≠ s := fun e2 => hn.irr i (by rw [e, e2])
    have hsx : sx f i = s := by
      by_cases e2 : sx f i = i
      · rw [nxT_stay h9 e2] at e; cases e
      · rw [nxT_some h9 e2] at e; exact Option.some.inj e
    refine ⟨?_, h9, hsx⟩
    rcases Nat.lt_or_ge 1 (way (nxT f) s).length with h | h
    · exact h
    · exfalso
      have h3 : (way (nxT f) s).length - 1 = 0 := by omega
      rw [h3] at h1
      have : orb (nxT f) s 0 = some s := rfl
      rw [this] at h1
      exact hi (Option.some.inj h1).symm
  · rintro ⟨hl, h9, hsx⟩
    have hi : sx f i ≠ i := by
      intro e
      have e2 : s = i := by rw [← hsx, e]
      have h3 : orb (nxT f) s 0 = orb (nxT f) s ((way (nxT f) s).length - 1) := by rw [h1, ← e2]; rfl
      have := hr.inj hp (by omega) h3
      omega
    rw [nxT_some h9 hi, hsx]
end Go.PW
namespace Go.Proofs.Ytcpibkffeenehaa
open Go.RowKit Go.PM Go.PW Go.Lib

end Go.Proofs.Ytcpibkffeenehaa
namespace Go.PM
open Go.RowKit
/-- the pieces that end before place i, and where the open one begins -/
def cutS (s : ByteArray) (c : UInt8) : Nat → List ByteArray × Nat
  | 0 => ([], 0)
  | i + 1 => if ∀ h : i < s.size, s[i] = c then ((cutS s c i).1 ++ [s.extract (cutS s c i).2 i], i + 1) else cutS s c i
def cutP (s : ByteArray) (c : UInt8) : List ByteArray := (cutS s c (s.size + 1)).1
theorem cutS_len (s : ByteArray) (c : UInt8) (i : Nat) : (cutS s c i).1.length ≤ i := by
  induction i with
  | zero => exact Nat.le_refl _
  | succ i ih =>
    rw [cutS]
    split
    · simp; omega
    · omega
theorem cutS_from (s : ByteArray) (c : UInt8) (i : Nat) : (cutS s c i).2 ≤ i := by
  induction i with
  | zero => exact Nat.le_refl _
  | succ i ih =>
    rw [cutS]
    split
    · exact Nat.le_refl _
    · omega
theorem cutS_end (s : ByteArray) (c : UInt8) : cutS s c (s.size + 1) = ((cutS s c s.size).1 ++ [s.extract (cutS s c s.size).2 s.size], s.size + 1) := by
  rw [cutS, if_pos]; intro h; omega
theorem cutS_yes (s : ByteArray) (c : UInt8) (i : Nat) (h : i < s.size) (hc : s[i] = c) : cutS s c (i + 1) = ((cutS s c i).1 ++ [s.extract (cutS s c i).2 i], i + 1) := by
  rw [cutS, if_pos]; intro _; exact hc
theorem cutS_no (s : ByteArray) (c : UInt8) (i : Nat) (h : i < s.size) (hc : ¬ s[i] = c) : cutS s c (i + 1) = cutS s c i := by
  rw [cutS, if_neg]; intro hh; exact hc (hh h)
theorem one_new (w : World) (a : Value) (t : TypeId) : ∀ j u, [a][j]? = some u → (w.alloc (.cells #[a] t)).cell? ((⟨w.heap.size, 0, none⟩ : Addr).add j) = some u := by
  intro j u hj
  match j, hj with
  | 0, hj => simp at hj; subst hj; simp [Addr.add]
end Go.PM
namespace Go.Proofs.Ytcpibkffeenehaa
open Go.RowKit Go.PM
theorem infoStr : (Try.prog.info? 9).map (fun i => (i.zero, i.size, i.bytes)) = some (some (.string ⟨#[]⟩), 1, 16) := by kernel_rfl

end Go.Proofs.Ytcpibkffeenehaa
namespace Go.PW
open Go.PM
def ringsT (nx : Nat → Option Nat) (k : Nat) : List ByteArray := (ringsF nx k).map txt
def ringsB (xs : List Mv) : List ByteArray := if mvalid xs then ringsT (nxT (tabOf xs)) 9 else []
theorem ringsB_len (xs : List Mv) : (ringsB xs).length ≤ 1000 := by
  unfold ringsB
  by_cases h : mvalid xs = true
  · rw [if_pos h]
    have := (ringsF_lt (nice (SV_tab (by simpa [mvalid] using h))) 9 (by omega)).2.1
    unfold ringsT; rw [List.length_map]; omega
  · rw [if_neg h]; simp
theorem way_first (nx : Nat → Option Nat) (s : Nat) (hn : Nice nx) (hs : s < 19) : ∃ l, way nx s = s :: l := by
  have hr := way_rho hn hs
  have h1 := hr.at_ 0 hr.pos
  cases hw : way nx s with
  | nil => have := hr.pos; rw [hw] at this; simp at this
  | cons a l =>
    rw [hw] at h1
    simp only [List.getElem?_cons_zero, orb, Option.some.injEq] at h1
    subst h1; exact ⟨l, rfl⟩
end Go.PW
namespace Go.Proofs.Ytcpibkffeenehaa
open Go.RowKit Go.PM Go.PW Go.Lib

end Go.Proofs.Ytcpibkffeenehaa
namespace Go.PW
open Go.RowKit Go.PM
def spotV (b : Nat) : Option Nat → Value
  | none => .pointer none
  | some j => .pointer (some ⟨b, j * 2, none⟩)
/-- the spots lie in block b -/
structure Spots (w : World) (b : Nat) (nx : Nat → Option Nat) : Prop where
  row : ∃ t cs, At w b t cs
  name : ∀ i, i < 19 → w.cell? ⟨b, i * 2, none⟩ = some (.string (sn i))
  src : ∀ i, i < 19 → w.cell? ⟨b, i * 2 + 1, none⟩ = some (spotV b (nx i))
theorem Spots.lt {w : World} {b : Nat} {nx : Nat → Option Nat} (h : Spots w b nx) : b < w.heap.size := by
  obtain ⟨t, cs, h⟩ := h.row; exact h.lt
theorem Spots.below {w w' : World} {b : Nat} {nx : Nat → Option Nat} (h : Spots w b nx) (hb : Below w.heap.size w w') : Spots w' b nx :=
  ⟨by obtain ⟨t, cs, h⟩ := h.row; exact ⟨t, cs, h.keep hb⟩, fun i hi => (hb.cell (p := ⟨b, i * 2, none⟩) h.lt).trans (h.name i hi), fun i hi => (hb.cell (p := ⟨b, i * 2 + 1, none⟩) h.lt).trans (h.src i hi)⟩
/-- two pointers that walk: r rounds are left at most -/
def Run (ob : Nat → Option Nat) (b K : Nat) (r : Nat) (sl fa : Value) : Prop := ∃ k, k + r = K ∧ 0 < r ∧ sl = spotV b (ob k) ∧ fa = spotV b (ob (2 * k))
theorem Run.next {ob : Nat → Option Nat} {b K k : Nat} {X Y X0 Y0 : Value} (h1 : k + least (fun r => Run ob b K r X0 Y0) = K) (hk : k + 1 < K) (hX : X = spotV b (ob (k + 1))) (hY : Y = spotV b (ob (2 * (k + 1)))) :
    (∃ r, Run ob b K r X Y) ∧ least (fun r => Run ob b K r X Y) < least (fun r => Run ob b K r X0 Y0) := by
  have h : Run ob b K (K - (k + 1)) X Y := ⟨k + 1, by omega, by omega, hX, hY⟩
  refine ⟨⟨_, h⟩, ?_⟩
  have := (least_spec (P := fun r => Run ob b K r X Y) ⟨_, h⟩).2 _ h
  omega
end Go.PW
namespace Go.Proofs.Ytcpibkffeenehaa
open Go.RowKit Go.PM Go.PW Go.Lib


end Go.Proofs.Ytcpibkffeenehaa
namespace Go.PW
open Go.RowKit Go.PM
/-- two pointers that walk side by side: r rounds are left -/
def Run2 (ob : Nat → Option Nat) (b k D : Nat) (r : Nat) (x y : Value) : Prop := ∃ j, j + r = D ∧ x = spotV b (ob j) ∧ y = spotV b (ob (k + j))
theorem Run2.next {ob : Nat → Option Nat} {b k D j : Nat} {X Y X0 Y0 : Value} (h1 : j + least (fun r => Run2 ob b k D r X0 Y0) = D) (hk : j < D) (hX : X = spotV b (ob (j + 1))) (hY : Y = spotV b (ob (k + (j + 1)))) :
    (∃ r, Run2 ob b k D r X Y) ∧ least (fun r => Run2 ob b k D r X Y) < least (fun r => Run2 ob b k D r X0 Y0) := by
  have h : Run2 ob b k D (D - (j + 1)) X Y := ⟨j + 1, by omega, hX, hY⟩
  refine ⟨⟨_, h⟩, ?_⟩
  have := (least_spec (P := fun r => Run2 ob b k D r X Y) ⟨_, h⟩).2 _ h
  omega
/-- one pointer that walks, and a counter -/
def Run1 (ob : Nat → Option Nat) (b D : Nat) (r : Nat) (x : Value) (n : Value) : Prop := ∃ j : Nat, j + r = D ∧ x = spotV b (ob j) ∧ n = .int .i64 j
end Go.PW
namespace Go.Proofs.Ytcpibkffeenehaa
open Go.RowKit Go.PM Go.PW Go.Lib

end Go.Proofs.Ytcpibkffeenehaa
namespace Go.Proofs.Ytcpibkffeenehaa
open Go.RowKit Go.PM Go.PW Go.Lib

end Go.Proofs.Ytcpibkffeenehaa
namespace Go.PW
open Go.RowKit Go.PM
/-- the cells of the spots: names and sources -/
def spA (n : Nat → ByteArray) (s : Nat → Value) : Array Value := Array.ofFn (n := 38) fun j => if j.val % 2 = 0 then .string (n (j.val / 2)) else s (j.val / 2)
theorem spA_size (n : Nat → ByteArray) (s : Nat → Value) : (spA n s).size = 38 := by simp [spA]
theorem spA_name (n : Nat → ByteArray) (s : Nat → Value) (i : Nat) (hi : i < 19) : (spA n s)[i * 2]? = some (.string (n i)) := by
  have h : i * 2 < 38 := by omega
  simp [spA, h]
theorem spA_src (n : Nat → ByteArray) (s : Nat → Value) (i : Nat) (hi : i < 19) : (spA n s)[i * 2 + 1]? = some (s i) := by
  have h : i * 2 + 1 < 38 := by omega
  have h2 : ¬ (i * 2 + 1) % 2 = 0 := by omega
  have h3 : (i * 2 + 1) / 2 = i := by omega
  simp [spA, h, h3]
theorem spA_setName (n : Nat → ByteArray) (s : Nat → Value) (i : Nat) (_hi : i < 19) (x : ByteArray) : (spA n s).setIfInBounds (i * 2) (.string x) = spA (upd n i x) s := by
  apply Array.ext
  · simp [spA]
  · intro j h1 h2
    rw [Array.getElem_setIfInBounds (by simpa [spA] using h2)]
    simp only [spA, Array.getElem_ofFn, upd]
    by_cases e : i * 2 = j
    · subst e
      simp
    · by_cases e2 : j % 2 = 0
      · have : ¬ j / 2 = i := by omega
        simp [e, e2, this]
      · simp [e, e2]
theorem spA_setSrc (n : Nat → ByteArray) (s : Nat → Value) (i : Nat) (_hi : i < 19) (x : Value) : (spA n s).setIfInBounds (i * 2 + 1) x = spA n (fun q => if q = i then x else s q) := by
  apply Array.ext
  · simp [spA]
  · intro j h1 h2
    rw [Array.getElem_setIfInBounds (by simpa [spA] using h2)]
    simp only [spA, Array.getElem_ofFn]
    by_cases e : i * 2 + 1 = j
    · subst e
      have h2 : ¬ (i * 2 + 1) % 2 = 0 := by omega
      have h3 : (i * 2 + 1) / 2 = i := by omega
      simp [h3]
    · by_cases e2 : j % 2 = 0
      · simp [e, e2]
      · have : ¬ j / 2 = i := by omega
        simp [e, e2, this]
abbrev zS : Array Value := #[.string ⟨#[]⟩, .pointer none, .string ⟨#[]⟩, .pointer none, .string ⟨#[]⟩, .pointer none, .string ⟨#[]⟩, .pointer none, .string ⟨#[]⟩, .pointer none, .string ⟨#[]⟩, .pointer none, .string ⟨#[]⟩, .pointer none, .string ⟨#[]⟩, .pointer none, .string ⟨#[]⟩, .pointer none, .string ⟨#[]⟩, .pointer none, .string ⟨#[]⟩, .pointer none, .string ⟨#[]⟩, .pointer none, .string ⟨#[]⟩, .pointer none, .string ⟨#[]⟩, .pointer none, .string ⟨#[]⟩, .pointer none, .string ⟨#[]⟩, .pointer none, .string ⟨#[]⟩, .pointer none, .string ⟨#[]⟩, .pointer none, .string ⟨#[]⟩, .pointer none]
theorem zS_eq : zS = spA (fun _ => emp) (fun _ => .pointer none) := rfl
/-- the first k names are laid -/
def nmK (k : Nat) : Nat → ByteArray := fun i => if i < k then sn i else emp
theorem nmK_zero : nmK 0 = fun _ => emp := by funext i; simp [nmK]
theorem nmK_succ (k : Nat) : upd (nmK k) k (sn k) = nmK (k + 1) := by
  funext i
  unfold upd nmK
  by_cases h : i = k
  · subst h; simp
  · by_cases h2 : i < k
    · simp [h, h2, Nat.lt_succ_of_lt h2]
    · have : ¬ i < k + 1 := by omega
      simp [h, h2, this]
/-- the first k sources are laid -/
def srcK (f : Nat → ByteArray) (b k : Nat) : Nat → Value := fun i => if i < k then spotV b (nxT f i) else .pointer none
theorem srcK_zero (f : Nat → ByteArray) (b : Nat) : srcK f b 0 = fun _ => .pointer none := by funext i; simp [srcK]
theorem srcK_succ (f : Nat → ByteArray) (b k : Nat) : (fun q => if q = k then spotV b (nxT f k) else srcK f b k q) = srcK f b (k + 1) := by
  funext i
  unfold srcK
  by_cases h : i = k
  · subst h; simp
  · by_cases h2 : i < k
    · simp [h, h2, Nat.lt_succ_of_lt h2]
    · have : ¬ i < k + 1 := by omega
      simp [h, h2, this]
theorem srcK_same (f : Nat → ByteArray) (b k : Nat) (h : nxT f k = none) : srcK f b k = srcK f b (k + 1) := by
  rw [← srcK_succ, h]
  funext i
  by_cases h : i = k
  · subst h; simp [srcK, spotV]
  · simp [h]
end Go.PW
namespace Go.Proofs.Ytcpibkffeenehaa
open Go.RowKit Go.PM Go.PW Go.Lib
attribute [local go_sem] Oper.semAt_some

end Go.Proofs.Ytcpibkffeenehaa
namespace Go.PM
open Go.RowKit
variable {F : Fence} {n : Nat} {P : Program}
/-- the same contract, of a function that reads what the caller keeps and writes to blocks of its own -/
def IterW {α : Type} (Pr : World → Prop) (κ : Nat) (F : Fence) (n : Nat) (P : Program) (gf : Nat) (mk : Value → Array Value) (encs : α → Array Value) (xs : List α) : Prop :=
  ∀ (l : Nat) (J Jx : List α → World → Prop) (W : World),
    OwnFrom W.heap.size J → OwnFrom W.heap.size Jx → (∀ pre A, J pre A → Pr A) → (∀ pre A A' r, J pre A → W.heap.size ≤ r → r < W.heap.size + κ → A.grownBy A' (some r) → J pre A') →
    (∀ pre x A, J pre A → W.heap.size + κ ≤ A.heap.size → pre ++ [x] <+: xs → YieldAt F (n - 1) P l (encs x) A fun e A' =>
      (e = .returned (.bool true) ∧ J (pre ++ [x]) A' ∧ KeepsIn W.heap.size κ A A' ∧ KeepsFrom W.heap.size A A') ∨ (e = .returned (.bool false) ∧ Jx (pre ++ [x]) A' ∧ A.heap.size ≤ A'.heap.size ∧ KeepsFrom W.heap.size A A')) →
    J [] W →
    CallsIn F n P gf (mk (.func (.yield l) #[] #[])) W fun e W' => (∃ v, e = .returned v) ∧ (J xs W' ∨ ∃ pre, pre <+: xs ∧ Jx pre W')
theorem range_law4 {α : Type} {Pr : World → Prop} {g : Operand} {ps : Array Tmp} {assign body : Code} {Q : Exit → Act → World → Prop} {a : Act} {w : World} (hro : F.round = none) (h1 : 1 ≤ n)
    {gf : Nat} {lf lb : Array Value} (hg : a.eval g = .func (.func gf) lf lb) (hFg : F.fn gf) (eg : ∀ args w, (callFunc gf args).run P w = .ok (.enter gf args) w)
    {encs : α → Array Value} {xs : List α} {κ : Nat} (hit : IterW Pr κ F (n - 1) P gf (fun y => lf ++ #[y] ++ lb) encs xs) (hps : ∀ x, (encs x).size = ps.size)
    (I : List α → World → Prop) (Ix : Code → List α → World → Prop) (hPr : ∀ pre A, I pre A → Pr A) (hIW : ∀ pre A A' r, I pre A → w.heap.size + 2 ≤ r → r < w.heap.size + 2 + κ → A.grownBy A' (some r) → I pre A') (hI : OwnFrom w.heap.size I) (hIx : ∀ c, OwnFrom w.heap.size (Ix c)) (h0 : I [] w) (Ax : α → Act → World → Prop) (hAx : ∀ x a', OwnFrom w.heap.size (fun (_ : Unit) W => Ax x a' W))
    (hassign : ∀ (l : Nat) (pre : List α) (x : α) (W : World) (K : Act → World → Prop), I pre W → pre ++ [x] <+: xs → w.heap.size + 2 + κ ≤ W.heap.size → (∀ a' W', KeepsNew w.heap.size W W' → I pre W' → Ax x a' W' → K a' W') →
      assign.wpIn (F.inRound l) (n - 1 - 1) P (Exit.then K (fun _ _ _ => False)) { tmps := (ps.zip (encs x)).foldl (fun t (p, v) => t.setIfInBounds p v) a.tmps, defers := [] } W)
    (hbody : ∀ (l : Nat) (pre : List α) (x : α) (a' : Act) (W : World), I pre W → Ax x a' W → pre ++ [x] <+: xs → w.heap.size + 2 + κ ≤ W.heap.size → body.wpIn (F.inRound l) (n - 1 - 1) P (ownPostG w.heap.size (KeepsIn (w.heap.size + 2) κ) I Ix (pre ++ [x]) W) a' W)
    (hdone : ∀ (D : Nat) (W : World), w.heap.size ≤ D → I xs W → W.heap[D]? = some (.deferred (some [])) → Q .normal { a with defers := { target := .collected D, args := #[] } :: a.defers } W)
    (hstop : ∀ (D : Nat) (c : Code) (pre : List α) (W : World), w.heap.size ≤ D → pre <+: xs → Ix c pre W → W.heap[D]? = some (.deferred (some [])) → c.wpIn F n P Q { a with defers := { target := .collected D, args := #[] } :: a.defers } W) :
    (Code.rangeFunc g ps assign body).wpIn F n P Q a w := by
  refine wpIn_rangeFunc fun fn hfn => ?_
  rw [hro]
  have key : ∃ rc : LoopState → Option Code → Loop, rc = fun s j => { state := s, pending := j, fn, tmps := a.tmps, params := ps, assign, body, defers := w.heap.size } := ⟨_, rfl⟩
  obtain ⟨rc, hrc⟩ := key
  let V := (w.alloc (.deferred (some []))).alloc (.loop (rc .ready none))
  -- the two blocks of book-keeping, and that the caller's own facts outlast what is done to them
  let Bk : LoopState → Option Code → World → Prop := fun s j A => A.heap[w.heap.size + 1]? = some (.loop (rc s j)) ∧ A.heap[w.heap.size]? = some (.deferred (some []))
  have bkput : ∀ {s j s' j' A}, Bk s j A → Bk s' j' (A.putObj (w.heap.size + 1) (.loop (rc s' j'))) := fun h =>
    ⟨World.putObj_heap_same (Array.getElem?_eq_some_iff.1 h.1).1, (World.putObj_heap_other (by omega)).trans h.2⟩
  have hVs : V.heap.size = w.heap.size + 2 := by simp [V, World.size_alloc]
  have bknew : ∀ {s j A A' row}, Bk s j A → A.grownBy A' row → (∀ r, row = some r → V.heap.size ≤ r ∧ ∃ o : Obj, A.heap[r]? = some o ∧ o.isCells = false) → Bk s j A' := fun h hg' hr =>
    ⟨(hg'.block _ (Array.getElem?_eq_some_iff.1 h.1).1 (fun e => by have := (hr _ e.symm).1; omega)).trans h.1, (hg'.block _ (Array.getElem?_eq_some_iff.1 h.2).1 (fun e => by have := (hr _ e.symm).1; omega)).trans h.2⟩
  have hV : Bk .ready none V := by
    refine ⟨?_, ?_⟩
    · have := World.alloc_heap_new (w.alloc (.deferred (some []))) (.loop (rc .ready none)); rwa [World.size_alloc] at this
    · exact (Below.heap_alloc _ _ _ (by simp)).trans (World.alloc_heap_new w _)
  have hIV : I [] V := hI.alloc _ (hI.alloc _ h0)
  refine ⟨w.heap.size + 1, [{ target := .collected w.heap.size, args := #[] }], V, { target := .fn (.func gf) lb, args := lf ++ #[.func (.yield (w.heap.size + 1)) #[] #[]] }, V, gf,
    lf ++ #[.func (.yield (w.heap.size + 1)) #[] #[]] ++ lb, V, ?_, ?_, ?_, ?_, fun _ => h1, ?_⟩
  · have := run_enterLoop_outer (P := P) (w := w) fn a.tmps ps assign body
    rw [this]; simp only [V, hrc]
  · simp only [resolve, hg]
    simp [go_sem]
  · intro f' hf'
    simp [Target.leads] at hf'
    subst hf'; exact hFg
  · simp [invoke, go_sem, eg]
  refine (hit (w.heap.size + 1) (fun pre A => I pre A ∧ Bk .ready none A) (fun pre A => ∃ c, Ix c pre A ∧ Bk .done (some c) A) V
    (fun pre A A' row h hg' hr => ⟨hI pre A A' row h.1 hg' (fun r e => ⟨by have := (hr r e).1; omega, (hr r e).2⟩), bknew h.2 hg' hr⟩)
    (fun pre A A' row ⟨c, h, hb⟩ hg' hr => ⟨c, hIx c pre A A' row h hg' (fun r e => ⟨by have := (hr r e).1; omega, (hr r e).2⟩), bknew hb hg' hr⟩) (fun pre A h => hPr pre A h.1) (fun pre A A' r h h1 h2 hg' => ⟨hIW pre A A' r h.1 (by omega) (by omega) hg', (hg'.block _ (Array.getElem?_eq_some_iff.1 h.2.1).1 (fun e => by cases e; omega)).trans h.2.1, (hg'.block _ (Array.getElem?_eq_some_iff.1 h.2.2).1 (fun e => by cases e; omega)).trans h.2.2⟩) ?_ ⟨hIV, hV⟩).mono ?_
  · rintro pre x A ⟨hi, hb⟩ hsz hpx
    have hy := run_yield (P := P) (args := encs x) hb.1 (by rw [hrc]; exact hps x)
    rw [hrc] at hy
    refine ⟨fn, _, assign, body, hy, roundIn_of_wpIn hfn (hassign _ pre x A _ hi hpx (by omega) ?_)⟩
    intro a' Wa hkn hia hax
    have hlt := (Array.getElem?_eq_some_iff.1 hb.1).1
    replace hb : Bk .ready none Wa := ⟨(hkn.same _ (by omega) hlt).trans hb.1, (hkn.same _ (Nat.le_refl _) (by omega)).trans hb.2⟩
    clear hy hi
    refine ⟨_, run_beginRound hb.1 (by rw [hrc]), ?_⟩
    have hknV : KeepsIn V.heap.size κ A Wa := hkn.toIn (by omega) hsz
    have hkfV : KeepsFrom V.heap.size A Wa := (hkn.mono (by omega)).from
    have hszA : A.heap.size ≤ Wa.heap.size := hkn.size
    replace hsz := Nat.le_trans hsz hszA
    clear hkn
    revert hknV hkfV hszA
    generalize A = A0
    intro hknV hkfV hszA
    obtain ⟨A, rfl⟩ : ∃ A, A = Wa := ⟨_, rfl⟩
    have hb2 : Bk .busy none (A.putObj (w.heap.size + 1) (.loop (rc .busy none))) := bkput hb
    have e2 : ({ rc .ready none with state := .busy } : Loop) = rc .busy none := by rw [hrc]
    rw [e2]
    refine wpIn_mono (hbody _ pre x a' _ (hI.putObj _ hia (by omega) hb.1 rfl) ((hAx x a').putObj (s := ()) _ hax (by omega) hb.1 rfl) hpx (by simp [World.putObj]; omega)) ?_
    have fin : ∀ (j : Option Code) (C : World), KeepsFrom w.heap.size (A.putObj (w.heap.size + 1) (.loop (rc .busy none))) C →
        (Instr.endRound (w.heap.size + 1) j).run P C = .ok (.bool j.isNone) (C.putObj (w.heap.size + 1) (.loop (rc (if j.isNone then .ready else .done) j))) ∧ Bk .busy none C := fun j C hk => by
      have h1 := hk.same _ _ (by omega) hb2.1 rfl
      have h2 := hk.same _ _ (Nat.le_refl _) hb2.2 rfl
      have h3 := run_endRound (P := P) j h1
      refine ⟨?_, h1, h2⟩
      rw [h3]; rw [hrc]
    have kfin : ∀ (o : Obj) (C : World), KeepsFrom w.heap.size (A.putObj (w.heap.size + 1) (.loop (rc .busy none))) C → KeepsFrom V.heap.size A0 (C.putObj (w.heap.size + 1) o) := fun o C hk => by
      refine hkfV.trans ?_
      refine ⟨by have := hk.size; simp [World.putObj] at this ⊢; omega, fun k x hk1 hk2 hk3 => ?_⟩
      rw [World.putObj_heap_other (by omega)]
      exact hk.same k x (by omega) (by rw [World.putObj_heap_other (by omega)]; exact hk2) hk3
    rintro e a3 C hp
    cases e with
    | normal =>
      obtain ⟨hk, hkn, hi3⟩ := hp
      obtain ⟨hr, hb3⟩ := fin none C hk
      refine ⟨_, _, hr, .inl ⟨rfl, ⟨hI.putObj _ hi3 (by omega) hb3.1 rfl, bkput hb3⟩, ?_, kfin _ C hk⟩⟩
      refine ⟨by have := hkn.size; simp [World.putObj] at this ⊢; omega, fun k hk1 hk2 => ?_⟩
      rw [World.putObj_heap_other (by omega), hkn.same k (by omega) (by omega), World.putObj_heap_other (by omega)]
      exact hknV.same k hk1 hk2
    | ret =>
      obtain ⟨hk, hi3⟩ := hp
      obtain ⟨hr, hb3⟩ := fin (some .ret) C hk
      exact ⟨_, _, hr, .inr ⟨rfl, ⟨.ret, (hIx _).putObj _ hi3 (by omega) hb3.1 rfl, bkput hb3⟩, by have := hk.size; simp [World.putObj] at this ⊢; omega, kfin _ C hk⟩⟩
    | exit id =>
      obtain ⟨hk, hi3⟩ := hp
      obtain ⟨hr, hb3⟩ := fin (some (.exit id)) C hk
      exact ⟨_, _, hr, .inr ⟨rfl, ⟨.exit id, (hIx _).putObj _ hi3 (by omega) hb3.1 rfl, bkput hb3⟩, by have := hk.size; simp [World.putObj] at this ⊢; omega, kfin _ C hk⟩⟩
    | goto t =>
      obtain ⟨hk, hi3⟩ := hp
      obtain ⟨hr, hb3⟩ := fin (some (.goto t)) C hk
      exact ⟨_, _, hr, .inr ⟨rfl, ⟨.goto t, (hIx _).putObj _ hi3 (by omega) hb3.1 rfl, bkput hb3⟩, by have := hk.size; simp [World.putObj] at this ⊢; omega, kfin _ C hk⟩⟩
    | panic ch => exact hp.elim
    | outgrown => exact hp.elim
  · rintro e C ⟨⟨v, rfl⟩, (⟨hi, hb⟩ | ⟨pre, hp, c, hi, hb⟩)⟩
    · have h3 := run_endLoop (P := P) hb.1 (by rw [hrc]; simp)
      refine ⟨none, _, by rw [h3, hrc], hdone _ _ (Nat.le_refl _) (hI.putObj _ hi (by omega) hb.1 rfl) ((World.putObj_heap_other (by omega)).trans hb.2)⟩
    · have h3 := run_endLoop (P := P) hb.1 (by rw [hrc]; simp)
      refine ⟨some c, _, by rw [h3, hrc], hstop _ c pre _ (Nat.le_refl _) hp ((hIx c).putObj _ hi (by omega) hb.1 rfl) ((World.putObj_heap_other (by omega)).trans hb.2)⟩
/-- The same where the assignment lays nothing. -/
theorem range_law5 {α : Type} {Pr : World → Prop} {g : Operand} {ps : Array Tmp} {assign body : Code} {Q : Exit → Act → World → Prop} {a : Act} {w : World} (hro : F.round = none) (h1 : 1 ≤ n)
    {gf : Nat} {lf lb : Array Value} (hg : a.eval g = .func (.func gf) lf lb) (hFg : F.fn gf) (eg : ∀ args w, (callFunc gf args).run P w = .ok (.enter gf args) w)
    {encs : α → Array Value} {xs : List α} {κ : Nat} (hit : IterW Pr κ F (n - 1) P gf (fun y => lf ++ #[y] ++ lb) encs xs) (hps : ∀ x, (encs x).size = ps.size)
    (I : List α → World → Prop) (Ix : Code → List α → World → Prop) (hPr : ∀ pre A, I pre A → Pr A) (hIW : ∀ pre A A' r, I pre A → w.heap.size + 2 ≤ r → r < w.heap.size + 2 + κ → A.grownBy A' (some r) → I pre A') (hI : OwnFrom w.heap.size I) (hIx : ∀ c, OwnFrom w.heap.size (Ix c)) (h0 : I [] w) (a₁ : α → Act)
    (hassign : ∀ (l : Nat) (x : α) (W : World) (K : Act → World → Prop), K (a₁ x) W →
      assign.wpIn (F.inRound l) (n - 1 - 1) P (Exit.then K (fun _ _ _ => False)) { tmps := (ps.zip (encs x)).foldl (fun t (p, v) => t.setIfInBounds p v) a.tmps, defers := [] } W)
    (hbody : ∀ (l : Nat) (pre : List α) (x : α) (W : World), I pre W → pre ++ [x] <+: xs → w.heap.size + 2 + κ ≤ W.heap.size → body.wpIn (F.inRound l) (n - 1 - 1) P (ownPostG w.heap.size (KeepsIn (w.heap.size + 2) κ) I Ix (pre ++ [x]) W) (a₁ x) W)
    (hdone : ∀ (D : Nat) (W : World), w.heap.size ≤ D → I xs W → W.heap[D]? = some (.deferred (some [])) → Q .normal { a with defers := { target := .collected D, args := #[] } :: a.defers } W)
    (hstop : ∀ (D : Nat) (c : Code) (pre : List α) (W : World), w.heap.size ≤ D → pre <+: xs → Ix c pre W → W.heap[D]? = some (.deferred (some [])) → c.wpIn F n P Q { a with defers := { target := .collected D, args := #[] } :: a.defers } W) :
    (Code.rangeFunc g ps assign body).wpIn F n P Q a w :=
  range_law4 hro h1 hg hFg eg hit hps I Ix hPr hIW hI hIx h0 (fun x a' _ => a' = a₁ x) (fun _ _ _ _ _ _ h _ _ => h)
    (fun l _ x W K hi _ _ hK => hassign l x W K (hK _ _ (KeepsNew.refl _ _) hi rfl)) (fun l pre x a' W hi ha hp hs => by subst ha; exact hbody l pre x W hi hp hs) hdone hstop
end Go.PM
namespace Go.PW
open Go.PM Go.RowKit
theorem Ent.unique {nx : Nat → Option Nat} {s : Nat} {a b : Option Nat} (h : Ent nx s a) (k : Ent nx s b) : a = b := by
  obtain ⟨D, hD, h⟩ := h
  obtain ⟨E, hE, k⟩ := k
  have := hD.unique hE
  subst this
  rcases h with ⟨rfl, j, hj⟩ | ⟨rfl, h⟩
  · rcases k with ⟨rfl, _⟩ | ⟨rfl, k⟩
    · rfl
    · exact absurd hj (k j)
  · rcases k with ⟨rfl, j, hj⟩ | ⟨rfl, k⟩
    · exact absurd hj (h j)
    · rfl
theorem ent_ex {nx : Nat → Option Nat} (hn : Nice nx) {s : Nat} (hs : s < 19) : ∃ m, Ent nx s m := by
  obtain ⟨D, hD, _⟩ := (way_rho hn hs).stops
  by_cases h : ∃ k, orb nx s k = none
  · exact ⟨none, D, hD, .inl ⟨rfl, h⟩⟩
  · exact ⟨orb nx s D, D, hD, .inr ⟨rfl, fun k hk => h ⟨k, hk⟩⟩⟩
theorem ringsF_pre {nx : Nat → Option Nat} {a b : Nat} (h : a ≤ b) : ringsF nx a <+: ringsF nx b := by
  induction b with
  | zero => have : a = 0 := by omega
            subst this; exact List.prefix_refl _
  | succ b ih =>
    by_cases e : a = b + 1
    · subst e; exact List.prefix_refl _
    · have h1 := ih (by omega)
      by_cases hc : onRb nx b = true ∧ b ∉ (ringsF nx b).flatten
      · rw [ringsF_yes hc.1 hc.2]; exact h1.trans (List.prefix_append _ _)
      · rw [ringsF_no hc]; exact h1
section
variable {P : Program} {C : World → Prop}
/-- two pointers held against each other in a quiet region -/
theorem ptr_step {F : Fence} {n : Nat} {ops : Array Oper} {Q : Act → Prop} {a : Act} {o : Oper} {rest : List Oper} (hgd : Region.wanted o (yielded ops a.tmps) = true) (ty ty2 : TypeId) (x y : Operand) (ho : o.op = .binOp .neq ty x y ty2) (p q : Option Addr) (hx : a.eval x = .pointer p) (hy : a.eval y = .pointer q) (v : Value)
    (hC : ∀ W, C W → (binOp .neq ty (.pointer p) (.pointer q)).run P W = .ok v W) (h : wpQuietIn F n P ops C Q rest (a.put o.dst v)) : wpQuietIn F n P ops C Q (o :: rest) a := by
  refine wpQuietIn_step (fun w _ f hf => by simp [Oper.about, ho] at hf) (fun K hK => ?_)
  rw [if_pos hgd]
  refine ⟨v, fun W hW => ?_, hK _ h⟩
  unfold Oper.quietAtIn
  have hg : (eqGuard .neq ty x y (.pointer p) (.pointer q)).run P W = .ok () W := by
    simp [eqGuard]
  simp only [execOp, ho, hx, hy, hg, Sem.run_bind, hC W hW, Result.andThen_ok, Sem.run_pure]
  exact ⟨rfl, rfl⟩
end
end Go.PW
namespace Go.Proofs.Ytcpibkffeenehaa
open Go.RowKit Go.PM Go.PW Go.Lib
attribute [local go_sem] Oper.semAt_some

end Go.Proofs.Ytcpibkffeenehaa
namespace Go.PM
open Go.RowKit
theorem own_box_ne' {w : World} {base : Nat} {e t : TypeId} {size n b : Nat} {v : Value} {cs : List Value} {c : Array Value} (h : w.ownsRow base e size v n cs) (hA : At w b t c) (hne : e ≠ t) : some b ≠ v.ownBlock := by
  rcases h.2 with ⟨rfl, _⟩ | ⟨g, cap, cur, rfl, _, hg, _⟩
  · simp [Value.ownBlock]
  · intro e'
    simp only [Value.ownBlock, Option.some.injEq] at e'
    subst e'
    unfold At at hA
    rw [hA] at hg
    cases hg
    exact hne rfl
theorem own_turn' {w w' : World} {base : Nat} {e : TypeId} {size n : Nat} {v : Value} {cs : List Value} {row : Option Nat} (h : w.ownsRow base e size v n cs) (hg : w.grownBy w' row) (hr : ∀ r, row = some r → ∃ o : Obj, w.heap[r]? = some o ∧ o.isCells = false) : w'.ownsRow base e size v n cs := by
  refine h.kept hg ?_
  rcases h.2 with ⟨rfl, _⟩ | ⟨g, cap, cur, rfl, _, hh, _⟩
  · exact .inl rfl
  · refine .inr fun e' => ?_
    obtain ⟨o, ho, hc⟩ := hr g e'.symm
    rw [hh] at ho
    cases ho
    cases hc
theorem at_turn' {w w' : World} {b : Nat} {t : TypeId} {c : Array Value} {row : Option Nat} (h : At w b t c) (hg : w.grownBy w' row) (hr : ∀ r, row = some r → ∃ o : Obj, w.heap[r]? = some o ∧ o.isCells = false) : At w' b t c := by
  refine (hg.block b h.lt fun e' => ?_).trans h
  obtain ⟨o, ho, hc⟩ := hr b e'.symm
  unfold At at h
  rw [h] at ho
  cases ho
  cases hc
theorem at_grown' {w w' : World} {b : Nat} {t : TypeId} {cs : Array Value} {row : Option Nat} (h : At w b t cs) (hg : w.grownBy w' row) (hne : some b ≠ row) : At w' b t cs := (hg.block b h.lt hne).trans h
end Go.PM
namespace Go.PW
open Go.RowKit Go.PM
theorem Spots.of_at {w w' : World} {b : Nat} {nx : Nat → Option Nat} (h : Spots w b nx) (hk : ∀ t cs, At w b t cs → At w' b t cs) : Spots w' b nx := by
  obtain ⟨t, cs, hA⟩ := h.row
  have hB := hk t cs hA
  exact ⟨⟨t, cs, hB⟩, fun i hi => by rw [hB.cell, ← hA.cell]; exact h.name i hi, fun i hi => by rw [hB.cell, ← hA.cell]; exact h.src i hi⟩
end Go.PW
namespace Go.Proofs.Ytcpibkffeenehaa
open Go.RowKit Go.PM Go.PW Go.Lib
attribute [local go_sem] Oper.semAt_some


end Go.Proofs.Ytcpibkffeenehaa
namespace Go.PW
open Go.PM

/-- two sets become one -/
def joinH (h : Nat → Nat) (a b : Nat) : Nat → Nat := fun q => if h q = h a then h b else h q
/-- which place stands for a place's wheel, when the first k places are joined with their sources -/
def hdF (f : Nat → ByteArray) : Nat → Nat → Nat
  | 0 => id
  | k + 1 => if sx f k < 9 then joinH (hdF f k) k (sx f k) else hdF f k
variable {f : Nat → ByteArray}
theorem hdF_yes {k : Nat} (h : sx f k < 9) : hdF f (k + 1) = joinH (hdF f k) k (sx f k) := by rw [hdF, if_pos h]
theorem hdF_no {k : Nat} (h : ¬ sx f k < 9) : hdF f (k + 1) = hdF f k := by rw [hdF, if_neg h]
theorem hd_sound (S : Nat → Prop) : ∀ k, (∀ p, p < k → sx f p < 9 → (S p ↔ S (sx f p))) → ∀ q r, hdF f k q = hdF f k r → (S q ↔ S r) := by
  intro k
  induction k with
  | zero => intro _ q r e; have : q = r := e; rw [this]
  | succ k ih =>
    intro hS q r e
    have ih := ih (fun p hp => hS p (by omega))
    by_cases h9 : sx f k < 9
    · rw [hdF_yes h9] at e
      have hk := hS k (by omega) h9
      unfold joinH at e
      by_cases h1 : hdF f k q = hdF f k k
      · by_cases h2 : hdF f k r = hdF f k k
        · rw [ih q k h1, ih r k h2]
        · rw [if_pos h1, if_neg h2] at e
          rw [ih q k h1, hk, ih _ r e]
      · by_cases h2 : hdF f k r = hdF f k k
        · rw [if_neg h1, if_pos h2] at e
          rw [ih q _ e, ← hk, ih r k h2]
        · rw [if_neg h1, if_neg h2] at e
          exact ih q r e
    · rw [hdF_no h9] at e
      exact ih q r e
theorem hd_keep {k q r : Nat} (e : hdF f k q = hdF f k r) : hdF f (k + 1) q = hdF f (k + 1) r := by
  by_cases h9 : sx f k < 9
  · rw [hdF_yes h9]; unfold joinH; rw [e]
  · rw [hdF_no h9]; exact e
theorem hd_edge : ∀ k p, p < k → sx f p < 9 → hdF f k p = hdF f k (sx f p) := by
  intro k
  induction k with
  | zero => intro p h; omega
  | succ k ih =>
    intro p hp h9
    rcases Nat.lt_or_ge p k with h1 | h1
    · exact hd_keep (ih p h1 h9)
    · have : p = k := by omega
      subst this
      rw [hdF_yes h9]
      unfold joinH
      rw [if_pos rfl]
      by_cases h2 : hdF f p (sx f p) = hdF f p p
      · rw [if_pos h2]
      · rw [if_neg h2]
theorem hd_lt (k : Nat) (hk : k ≤ 9) : ∀ q, q < 9 → hdF f k q < 9 := by
  induction k with
  | zero => intro q h; exact h
  | succ k ih =>
    intro q hq
    by_cases h9 : sx f k < 9
    · rw [hdF_yes h9]; unfold joinH
      by_cases h1 : hdF f k q = hdF f k k
      · rw [if_pos h1]; exact ih (by omega) _ h9
      · rw [if_neg h1]; exact ih (by omega) _ hq
    · rw [hdF_no h9]; exact ih (by omega) q hq

/-- an array that leads each place to the one that stands for its set -/
structure Forest (w h dp : Nat → Nat) : Prop where
  lt : ∀ q, q < 9 → w q < 9
  hlt : ∀ q, q < 9 → h q < 9
  root : ∀ q, q < 9 → w q = q → h q = q
  up : ∀ q, q < 9 → w q ≠ q → dp (w q) < dp q ∧ h (w q) = h q
  top : ∀ q, q < 9 → w (h q) = h q
theorem Forest.id : Forest (fun q => q) (fun q => q) (fun _ => 0) := ⟨fun _ h => h, fun _ h => h, fun _ _ _ => rfl, fun _ _ h => absurd rfl h, fun _ _ => rfl⟩
theorem Forest.join {w h dp : Nat → Nat} (F : Forest w h dp) {a b : Nat} (ha : a < 9) (hb : b < 9) :
    ∃ dp', Forest (fun q => if q = h a then h b else w q) (joinH h a b) dp' := by
  have hab := F.hlt a ha
  have hbb := F.hlt b hb
  have ta := F.root _ hab (F.top a ha)
  have tb := F.root _ hbb (F.top b hb)
  by_cases he : h a = h b
  · refine ⟨dp, ⟨fun q hq => ?_, fun q hq => ?_, fun q hq e => ?_, fun q hq e => ?_, fun q hq => ?_⟩⟩
    all_goals
      have e1 : ∀ q, (if q = h a then h b else w q) = w q := by
        intro q
        by_cases h1 : q = h a
        · rw [if_pos h1, h1, ← he, F.top a ha]
        · rw [if_neg h1]
      have e2 : ∀ q, joinH h a b q = h q := by
        intro q; unfold joinH
        by_cases h1 : h q = h a
        · rw [if_pos h1, h1, he]
        · rw [if_neg h1]
      simp only [e1, e2] at *
    · exact F.lt q hq
    · exact F.hlt q hq
    · exact F.root q hq e
    · exact F.up q hq e
    · exact F.top q hq
  · refine ⟨fun q => if h q = h a then dp q + dp (h b) + 1 else dp q, ⟨fun q hq => ?_, fun q hq => ?_, fun q hq e => ?_, fun q hq e => ?_, fun q hq => ?_⟩⟩
    · show (if q = h a then h b else w q) < 9
      by_cases h1 : q = h a
      · rw [if_pos h1]; exact hbb
      · rw [if_neg h1]; exact F.lt q hq
    · unfold joinH
      by_cases h1 : h q = h a
      · rw [if_pos h1]; exact hbb
      · rw [if_neg h1]; exact F.hlt q hq
    · have e : (if q = h a then h b else w q) = q := e
      by_cases h1 : q = h a
      · rw [if_pos h1, h1] at e; exact absurd e.symm he
      · rw [if_neg h1] at e
        have := F.root q hq e
        unfold joinH
        rw [if_neg (by rw [this]; exact h1)]; exact this
    · have e : (if q = h a then h b else w q) ≠ q := e
      show (if h (if q = h a then h b else w q) = h a then dp (if q = h a then h b else w q) + dp (h b) + 1 else dp (if q = h a then h b else w q)) < (if h q = h a then dp q + dp (h b) + 1 else dp q) ∧ joinH h a b (if q = h a then h b else w q) = joinH h a b q
      by_cases h1 : q = h a
      · subst h1
        rw [if_pos rfl, if_neg (by rw [tb]; exact fun h => he h.symm), if_pos ta]
        refine ⟨by omega, ?_⟩
        unfold joinH
        rw [if_neg (by rw [tb]; exact fun h => he h.symm), if_pos ta, tb]
      · rw [if_neg h1] at e ⊢
        have u := F.up q hq e
        rw [u.2]
        refine ⟨?_, by unfold joinH; rw [u.2]⟩
        by_cases h2 : h q = h a
        · rw [if_pos h2, if_pos h2]; omega
        · rw [if_neg h2, if_neg h2]; exact u.1
    · show (if joinH h a b q = h a then h b else w (joinH h a b q)) = joinH h a b q
      unfold joinH
      by_cases h1 : h q = h a
      · rw [if_pos h1, if_neg (fun h => he h.symm)]; exact F.top b hb
      · rw [if_neg h1, if_neg h1]; exact F.top q hq

/-- a list of places that hang together with one and from which nothing leads out -/
structure Comp (f : Nat → ByteArray) (p : Nat) (l : List Nat) (done : Nat) : Prop where
  nodup : l.Nodup
  lt : ∀ q ∈ l, q < 9
  has : p ∈ l
  in_ : ∀ q ∈ l, hdF f 9 q = hdF f 9 p
  out : ∀ k q, k < done → l[k]? = some q → (sx f q < 9 → sx f q ∈ l) ∧ ∀ r, r < 9 → sx f r = q → r ∈ l
theorem Comp.all {p : Nat} {l : List Nat} (h : Comp f p l l.length) : ∀ q, q < 9 → (q ∈ l ↔ hdF f 9 q = hdF f 9 p) := by
  intro q hq
  refine ⟨h.in_ q, fun e => ?_⟩
  refine (hd_sound (f := f) (fun x => x ∈ l) 9 (fun r hr h9 => ?_) q p e).2 h.has
  have hin : ∀ x, x ∈ l → (sx f x < 9 → sx f x ∈ l) ∧ ∀ r, r < 9 → sx f r = x → r ∈ l := by
    intro x hx
    obtain ⟨k, hk⟩ := List.getElem?_of_mem hx
    exact h.out k x (List.getElem?_eq_some_iff.1 hk).1 hk
  exact ⟨fun hm => (hin r hm).1 h9, fun hm => (hin _ hm).2 r hr rfl⟩
end Go.PW
namespace Go.PW
open Go.PM
variable {f : Nat → ByteArray}
def wheelH (f : Nat → ByteArray) (p q : Nat) : Bool := decide (hdF f 9 q = hdF f 9 p)
/-- the wheel of a place, in order -/
def wheelL (f : Nat → ByteArray) (p : Nat) : List Nat := (List.range 9).filter (wheelH f p)
theorem wheelL_mem {p q : Nat} : q ∈ wheelL f p ↔ q < 9 ∧ hdF f 9 q = hdF f 9 p := by
  simp [wheelL, wheelH]
theorem wheelL_congr {p q : Nat} (e : hdF f 9 q = hdF f 9 p) : wheelL f q = wheelL f p := by
  unfold wheelL wheelH; rw [e]
theorem wheelL_lt {p : Nat} : ∀ a ∈ wheelL f p, a < 9 := fun _a ha => (wheelL_mem.1 ha).1
theorem wheelL_self {p : Nat} (hp : p < 9) : p ∈ wheelL f p := wheelL_mem.2 ⟨hp, rfl⟩
theorem wheelL_len (p : Nat) : (wheelL f p).length ≤ 9 := by
  have := List.length_filter_le (wheelH f p) (List.range 9)
  simpa [wheelL] using this
theorem head_le : ∀ (l : List Nat), l.Pairwise (· < ·) → ∀ a ∈ l, ∃ h, l.head? = some h ∧ h ≤ a ∧ h ∈ l
  | [], _, a, ha => by cases ha
  | x :: l, hp, a, ha => by
    refine ⟨x, rfl, ?_, by simp⟩
    rw [List.mem_cons] at ha
    rcases ha with rfl | ha
    · exact Nat.le_refl _
    · exact Nat.le_of_lt ((List.pairwise_cons.1 hp).1 a ha)
theorem wheelL_sorted (p : Nat) : (wheelL f p).Pairwise (· < ·) := by
  unfold wheelL
  exact (List.pairwise_lt_range (n := 9)).filter _
theorem wheelL_head {p : Nat} (hp : p < 9) : ∃ h, (wheelL f p).head? = some h ∧ h ≤ p ∧ h ∈ wheelL f p := head_le _ (wheelL_sorted p) p (wheelL_self hp)
/-- whether a place is the first one of a wheel of two places or more -/
def firstW (f : Nat → ByteArray) (p : Nat) : Bool := decide (1 < (wheelL f p).length ∧ (wheelL f p).head? = some p)
/-- the wheels of the first k places -/
def wheelsF (f : Nat → ByteArray) (k : Nat) : List (List Nat) := ((List.range k).filter (firstW f)).map (wheelL f)
theorem wheelsF_yes {k : Nat} (h : firstW f k = true) : wheelsF f (k + 1) = wheelsF f k ++ [wheelL f k] := by simp [wheelsF, List.range_succ, h]
theorem wheelsF_no {k : Nat} (h : firstW f k = false) : wheelsF f (k + 1) = wheelsF f k := by simp [wheelsF, List.range_succ, h]
theorem wheelsF_len (k : Nat) : (wheelsF f k).length ≤ k := by
  unfold wheelsF; rw [List.length_map]
  have := List.length_filter_le (firstW f) (List.range k)
  simpa using this
theorem flat_len : ∀ (l : List (List Nat)), (∀ x ∈ l, x.length ≤ 9) → l.flatten.length ≤ 9 * l.length
  | [], _ => by simp
  | x :: l, h => by
    have := flat_len l fun y hy => h y (by simp [hy])
    have := h x (by simp)
    simp only [List.flatten_cons, List.length_append, List.length_cons]; omega
theorem wheelsF_flat (k : Nat) : (∀ a ∈ (wheelsF f k).flatten, a < 9) ∧ (wheelsF f k).flatten.length ≤ 9 * k := by
  have hm : ∀ x ∈ wheelsF f k, ∃ p, x = wheelL f p := fun x hx => by
    obtain ⟨p, _, e⟩ := List.mem_map.1 hx; exact ⟨p, e.symm⟩
  refine ⟨fun a ha => ?_, ?_⟩
  · obtain ⟨x, hx, ha⟩ := List.mem_flatten.1 ha
    obtain ⟨p, rfl⟩ := hm x hx
    exact wheelL_lt a ha
  · have h1 := flat_len (wheelsF f k) fun x hx => by obtain ⟨p, rfl⟩ := hm x hx; exact wheelL_len p
    have h2 := wheelsF_len (f := f) k
    omega
/-- the first place of a wheel is not in an earlier one exactly if it is the place itself -/
theorem seen_iff {p : Nat} (hp : p < 9) (hl : 1 < (wheelL f p).length) {h : Nat} (hh : (wheelL f p).head? = some h) : h ∉ (wheelsF f p).flatten ↔ h = p := by
  obtain ⟨h', e, hle, hm⟩ := wheelL_head (f := f) hp
  rw [hh] at e; cases e
  have hc := (wheelL_mem.1 hm).2
  constructor
  · intro hn
    rcases Nat.lt_or_ge h p with h1 | h1
    · exfalso
      apply hn
      refine List.mem_flatten.2 ⟨wheelL f h, List.mem_map.2 ⟨h, List.mem_filter.2 ⟨by simpa using h1, ?_⟩, rfl⟩, wheelL_self (by omega)⟩
      unfold firstW
      rw [wheelL_congr hc, decide_eq_true_eq]
      exact ⟨hl, hh⟩
    · omega
  · rintro rfl hin
    obtain ⟨x, hx, ha⟩ := List.mem_flatten.1 hin
    obtain ⟨r, hr, rfl⟩ := List.mem_map.1 hx
    obtain ⟨hr1, hr2⟩ := List.mem_filter.1 hr
    unfold firstW at hr2
    rw [decide_eq_true_eq] at hr2
    have e1 := wheelL_congr (wheelL_mem.1 ha).2
    rw [← e1, hh] at hr2
    have := Option.some.inj hr2.2
    have : r < h := by simpa using hr1
    omega

/-- a ring's places have readers -/
theorem ring_pred {nx : Nat → Option Nat} {i : Nat} (h : OnR nx i) : ∃ j, nx j = some i := by
  obtain ⟨k, hk, e⟩ := h
  obtain ⟨k, rfl⟩ : ∃ m, k = m + 1 := ⟨k - 1, by omega⟩
  simp only [orb, Option.bind_eq_some_iff] at e
  obtain ⟨j, _, e⟩ := e
  exact ⟨j, e⟩
theorem ring_all {nx : Nat → Option Nat} (hn : Nice nx) {s : Nat} (hs : s < 19) (h : OnR nx s) : ∀ i ∈ way nx s, OnR nx i := by
  intro i hi
  have hr := way_rho hn hs
  have e := hr.onR.1 h
  obtain ⟨j, hj⟩ := List.getElem?_of_mem hi
  have hlt := (List.getElem?_eq_some_iff.1 hj).1
  rw [hr.at_ j hlt] at hj
  exact (hr.ring_at hr.pos (by rw [e]; rfl) hj).2 (Nat.zero_le _)
theorem ring_low {nx : Nat → Option Nat} (hn : Nice nx) {i : Nat} (h : OnR nx i) : i < 9 := by
  obtain ⟨k, hk, e⟩ := h
  obtain ⟨k, rfl⟩ : ∃ m, k = m + 1 := ⟨k - 1, by omega⟩
  rw [show k + 1 = 1 + k by omega, orb_add] at e
  cases h1 : orb nx i 1 with
  | none => rw [h1] at e; cases e
  | some j => exact hn.low i j (by simpa [orb] using h1)
/-- how many places read a spot -/
def rcount (f : Nat → ByteArray) (i : Nat) : Nat := (namesW (rdH f (sn i))).size
theorem rcount_pos {f : Nat → ByteArray} (hf : SV f) {i j : Nat} (hi : i < 19) (h : nxT f j = some i) : 1 ≤ rcount f i := by
  have hj := (nice hf).low _ _ h
  have hs : sx f j = i ∧ j ≠ i := by
    unfold nxT at h
    rw [if_pos hj] at h
    by_cases e : sx f j = j
    · rw [if_pos e] at h; cases h
    · rw [if_neg e, Option.some.injEq] at h; exact ⟨h, fun e2 => e (by rw [h, e2])⟩
  have hr : rdH f (sn i) j = true := by
    unfold rdH
    rw [← (sx_lt hf hj).2, hs.1, ← sn_nm j hj]
    simp only [decide_true, Bool.and_true, decide_eq_true_eq]
    exact fun e => hs.2 (sn_inj (by omega) hi e)
  unfold rcount namesW
  have : j ∈ (List.range 9).filter (rdH f (sn i)) := List.mem_filter.2 ⟨by simpa using hj, hr⟩
  have h0 := List.length_pos_of_mem this
  have e : (ByteArray.mk (namesL (rdH f (sn i)) (List.range 9)).toArray).size = ((List.range 9).filter (rdH f (sn i))).length := by simp [ByteArray.size, namesL]
  rw [e]; exact h0
/-- a ring that nobody reads from outside -/
def shut (f : Nat → ByteArray) (l : List Nat) : Bool := l.all fun i => decide (rcount f i ≤ 1)
theorem ring_one {f : Nat → ByteArray} (hf : SV f) {s : Nat} (hs : s < 19) (h : onRb (nxT f) s = true) {i : Nat} (hi : i ∈ way (nxT f) s) : (rcount f i ≤ 1 ↔ rcount f i = 1) := by
  have hn := nice hf
  have h1 := ring_all hn hs ((onRb_iff hn hs).1 h) i hi
  obtain ⟨j, hj⟩ := ring_pred h1
  have := rcount_pos hf ((way_rho hn hs).lt i hi) hj
  omega
end Go.PW
namespace Go.PW
open Go.PM
def shut1 (f : Nat → ByteArray) (l : List Nat) : Bool := l.all fun i => decide (rcount f i = 1)
theorem ringsF_mem {nx : Nat → Option Nat} : ∀ k, ∀ l ∈ ringsF nx k, ∃ s, s < k ∧ l = way nx s ∧ onRb nx s = true := by
  intro k
  induction k with
  | zero => intro l h; simp [ringsF] at h
  | succ k ih =>
    intro l h
    by_cases hc : onRb nx k = true ∧ k ∉ (ringsF nx k).flatten
    · rw [ringsF_yes hc.1 hc.2, List.mem_append] at h
      rcases h with h | h
      · obtain ⟨s, h1, h2⟩ := ih l h; exact ⟨s, by omega, h2⟩
      · simp at h; exact ⟨k, by omega, h, hc.1⟩
    · rw [ringsF_no hc] at h
      obtain ⟨s, h1, h2⟩ := ih l h; exact ⟨s, by omega, h2⟩
theorem all_eq {α : Type _} {p q : α → Bool} : ∀ (l : List α), (∀ i ∈ l, p i = q i) → l.all p = l.all q
  | [], _ => rfl
  | a :: l, h => by rw [List.all_cons, List.all_cons, h a (by simp), all_eq l fun i hi => h i (by simp [hi])]
theorem shut_iff {f : Nat → ByteArray} (hf : SV f) {l : List Nat} (hl : l ∈ ringsF (nxT f) 9) : shut f l = shut1 f l := by
  obtain ⟨s, hs, rfl, hon⟩ := ringsF_mem 9 l hl
  unfold shut shut1
  have h : ∀ i ∈ way (nxT f) s, decide (rcount f i ≤ 1) = decide (rcount f i = 1) := fun i hi => by
    rw [decide_eq_decide]; exact ring_one hf (by omega) hon hi
  exact all_eq _ h
theorem closed_take {f : Nat → ByteArray} {l : List Nat} {j : Nat} (hj : j < l.length) : shut1 f (l.take (j + 1)) = (shut1 f (l.take j) && decide (rcount f l[j] = 1)) := by
  unfold shut1
  rw [take_snoc l j hj, List.all_append]; simp
def closedT (f : Nat → ByteArray) (rs : List (List Nat)) : List ByteArray := (rs.filter (shut1 f)).map txt
theorem closedT_yes {f : Nat → ByteArray} {rs : List (List Nat)} {l : List Nat} (h : shut1 f l = true) : closedT f (rs ++ [l]) = closedT f rs ++ [txt l] := by simp [closedT, h]
theorem closedT_no {f : Nat → ByteArray} {rs : List (List Nat)} {l : List Nat} (h : shut1 f l = false) : closedT f (rs ++ [l]) = closedT f rs := by simp [closedT, h]
theorem closedT_len {f : Nat → ByteArray} (rs : List (List Nat)) : (closedT f rs).length ≤ rs.length := by
  unfold closedT; rw [List.length_map]; exact List.length_filter_le _ _
def closedB (xs : List Mv) : List ByteArray := if mvalid xs then closedT (tabOf xs) (ringsF (nxT (tabOf xs)) 9) else []
theorem closedB_len (xs : List Mv) : (closedB xs).length ≤ 1000 := by
  unfold closedB
  by_cases h : mvalid xs = true
  · rw [if_pos h]
    have h1 := (ringsF_lt (nice (SV_tab (by simpa [mvalid] using h))) 9 (by omega)).2.1
    have h2 := closedT_len (f := tabOf xs) (ringsF (nxT (tabOf xs)) 9)
    omega
  · rw [if_neg h]; simp
end Go.PW
namespace Go.Proofs.Ytcpibkffeenehaa
open Go.RowKit Go.PM Go.PW Go.Lib

end Go.Proofs.Ytcpibkffeenehaa
namespace Go.PM
section
variable {F : Fence} {n : Nat} {P : Program} {b : Frame} {a : Act} {k : List Item} {cs : List Frame} {w : World} {Q : Exit → Act → World → Prop}
theorem stepR_scope {c : Code} : step P (lone (b.atR a (.code (.scope c) :: k)) cs w) = .next (lone (b.atR a (.code c :: .inScope c :: k)) cs w) :=
  step_lone_go (by simp [stepG, stepG.exec, Frame.atR])
theorem stepR_inScope {c : Code} : step P (lone (b.atR a (.inScope c :: k)) cs w) = .next (lone (b.atR a k) cs w) :=
  step_lone_go (by simp [stepG, stepG.exec, Frame.atR])
/-- a scope through which the run goes without a goto, inside a fence -/
theorem wpIn_scope {c : Code} (h : c.wpIn F n P (Exit.noGoto Q) a w) : (Code.scope c).wpIn F n P Q a w := by
  intro b k cs hro hb hr
  have h0 : (lone (b.atR a (.code (.scope c) :: k)) cs w).fenced P F := fenced_calm hb hr rfl
  obtain ⟨e, a₁, w₁, hq, harr⟩ := h b (.inScope c :: k) cs hro hb hr
  cases e with
  | normal => exact ⟨.normal, a₁, w₁, hq, .head h0 stepR_scope (StepsIn.trans harr (.one (fenced_calm hb hr rfl) stepR_inScope))⟩
  | exit id' =>
    have hx : exitTo id' (.inScope c :: k) = exitTo id' k := by simp [exitTo]
    exact ⟨.exit id', a₁, w₁, hq, fun k' hk => .head h0 stepR_scope (harr.1 k' (by rw [hx]; exact hk)),
      fun hr' hk => let ⟨k₁, h1, h2⟩ := harr.2 hr' (by rw [hx]; exact hk); ⟨k₁, h1, .head h0 stepR_scope h2⟩⟩
  | goto l => exact hq.elim
  | ret => exact ⟨_, a₁, w₁, hq, .of_steps (.one h0 stepR_scope) harr⟩
  | panic ch => exact ⟨_, a₁, w₁, hq, .of_steps (.one h0 stepR_scope) harr⟩
  | outgrown => exact ⟨_, a₁, w₁, hq, .of_steps (.one h0 stepR_scope) harr⟩
end
end Go.PM
namespace Go.PW
open Go.RowKit Go.PM
def closedS (f : Nat → ByteArray) (rs : List (List Nat)) : List ByteArray := (rs.filter (shut f)).map txt
theorem closedS_yes {f : Nat → ByteArray} {rs : List (List Nat)} {l : List Nat} (h : shut f l = true) : closedS f (rs ++ [l]) = closedS f rs ++ [txt l] := by simp [closedS, h]
theorem closedS_no {f : Nat → ByteArray} {rs : List (List Nat)} {l : List Nat} (h : shut f l = false) : closedS f (rs ++ [l]) = closedS f rs := by simp [closedS, h]
theorem closedS_len {f : Nat → ByteArray} (rs : List (List Nat)) : (closedS f rs).length ≤ rs.length := by
  unfold closedS; rw [List.length_map]; exact List.length_filter_le _ _
theorem closedS_T {f : Nat → ByteArray} (hf : SV f) : closedS f (ringsF (nxT f) 9) = closedT f (ringsF (nxT f) 9) := by
  unfold closedS closedT
  congr 1
  exact List.filter_congr fun l hl => shut_iff hf hl
theorem shut_take {f : Nat → ByteArray} {l : List Nat} {j : Nat} (hj : j < l.length) : shut f (l.take (j + 1)) = (shut f (l.take j) && decide (rcount f l[j] ≤ 1)) := by
  unfold shut
  rw [take_snoc l j hj, List.all_append]; simp
theorem shut_bad {f : Nat → ByteArray} {l : List Nat} {j : Nat} (hj : j < l.length) (h : ¬ rcount f l[j] ≤ 1) : shut f l = false := by
  unfold shut
  rw [List.all_eq_false]
  exact ⟨l[j], List.getElem_mem hj, by simpa using h⟩
end Go.PW
namespace Go.Proofs.Ytcpibkffeenehaa
open Go.RowKit Go.PM Go.PW Go.Lib
attribute [local go_sem] Oper.semAt_some

end Go.Proofs.Ytcpibkffeenehaa
namespace Go.PM
open Go.PW
open Go.RowKit
def needB (xs : List Mv) : Bool := decide (0 < (closedB xs).length)
def cioI (xs : List Mv) : Int := if mvalid xs then ((busyF xs 9).length : Int) + ((closedB xs).length : Int) else -1
theorem closedB_no {xs : List Mv} (h : mvalid xs = false) : closedB xs = [] := by
  unfold closedB; rw [h]; rfl
end Go.PM
namespace Go.Proofs.Ytcpibkffeenehaa
open Go.RowKit Go.PM Go.PW

end Go.Proofs.Ytcpibkffeenehaa
namespace Go.PF
open Go.PM Go.PD Go.RowKit Go.Lib
def preOk (l : List UInt8) (k : Nat) : Prop := (l.take k).Nodup ∧ ∀ c ∈ l.take k, c ∈ regsL
theorem pre_zero (l : List UInt8) : preOk l 0 := by simp [preOk]
theorem pre_step {l : List UInt8} {k : Nat} (hk : k < l.length) (h : preOk l k) : preOk l (k + 1) ↔ l[k] ∈ regsL ∧ l[k] ∉ l.take k := by
  unfold preOk
  rw [take_snoc l k hk, List.nodup_append]
  constructor
  · rintro ⟨⟨_, _, h1⟩, h2⟩
    exact ⟨h2 _ (List.mem_append_right _ (List.mem_singleton_self _)), fun hm => h1 _ hm _ (List.mem_singleton_self _) rfl⟩
  · rintro ⟨h1, h2⟩
    refine ⟨⟨h.1, by simp, fun a ha b hb e => ?_⟩, fun c hc => ?_⟩
    · have : b = l[k] := by simpa using hb
      subst this; subst e; exact h2 ha
    · rcases List.mem_append.1 hc with hc | hc
      · exact h.2 c hc
      · have : c = l[k] := by simpa using hc
        subst this; exact h1
theorem pre_par {l : List UInt8} (k : Nat) (h : parOk l = true) : preOk l k :=
  ⟨(par_nodup h).sublist (List.take_sublist _ _), fun c hc => par_reg h c (List.mem_of_mem_take hc)⟩
theorem par_no {l : List UInt8} {k : Nat} (h : ¬ preOk l k) : parOk l = false := by
  cases hb : parOk l with
  | false => rfl
  | true => exact absurd (pre_par k hb) h
theorem ars_no {az : ByteArray} {k : Nat} (hk : k < az.size) (h : isS (az.extract k (k + 1)) = false) (ps : List UInt8) : clOk ps az.data.toList = false := by
  cases hb : clOk ps az.data.toList with
  | false => rfl
  | true =>
    have hl : k < az.data.toList.length := by rw [size_data]; exact hk
    rw [extract_one az k hk, List.getD_eq_getElem?_getD, List.getElem?_eq_getElem hl] at h
    have := cl_src hb _ (List.getElem_mem hl)
    rw [show ch az.data.toList[k] = ⟨#[(some az.data.toList[k]).getD 0]⟩ from rfl] at this
    rw [this] at h
    cases h
theorem ars_yes {az : ByteArray} (h : ∀ k, k < az.size → isS (az.extract k (k + 1)) = true) (ps : List UInt8) : clOk ps az.data.toList = (parOk ps && decide (az.data.toList.length = ps.length)) := by
  have : arsOk az.data.toList = true := by
    unfold arsOk
    rw [List.all_eq_true]
    intro c hc
    obtain ⟨k, hk, rfl⟩ := List.getElem_of_mem hc
    have h2 := h k (by rw [← size_data]; exact hk)
    rw [extract_one az k (by rw [← size_data]; exact hk), List.getD_eq_getElem?_getD, List.getElem?_eq_getElem hk] at h2
    exact h2
  unfold clOk; rw [this, Bool.true_and]
theorem clM_take {ps az : ByteArray} (h : az.size = ps.size) (k : Nat) (hk : k < ps.size) : (clM ps.data.toList az.data.toList).take (k + 1) = (clM ps.data.toList az.data.toList).take k ++ [(ps.extract k (k + 1), az.extract k (k + 1))] := by
  have h1 : k < ps.data.toList.length := by rw [size_data]; exact hk
  have h2 : k < az.data.toList.length := by rw [size_data]; omega
  have hl : k < (clM ps.data.toList az.data.toList).length := by rw [clM_len _ _ (by rw [size_data, size_data]; exact h)]; exact h1
  rw [take_snoc _ k hl, clM_at k hl h1 h2, extract_one ps k hk, extract_one az k (by omega), List.getD_eq_getElem?_getD, List.getD_eq_getElem?_getD, List.getElem?_eq_getElem h1, List.getElem?_eq_getElem h2]
  rfl
theorem agS_at {ps : List UInt8} {xs : List Mv} (k : Nat) (hk : k < xs.length) (h : (decide (xs[k].1 = xs[k].2) || inPs ps xs[k]) = false) : agS ps xs = false := by
  cases hb : agS ps xs with
  | false => rfl
  | true =>
    have := List.all_eq_true.1 hb _ (List.getElem_mem hk)
    rw [this] at h; cases h
theorem agS_all {ps : List UInt8} {xs : List Mv} (h : ∀ k (hk : k < xs.length), (decide (xs[k].1 = xs[k].2) || inPs ps xs[k]) = true) : agS ps xs = true :=
  List.all_eq_true.2 fun m hm => by
    obtain ⟨k, hk, rfl⟩ := List.getElem_of_mem hm
    exact h k hk
theorem src_one {xs : List Mv} (h : MV xs) {a : ByteArray} (ha : isP a = true) : (srcM xs a).size = 1 := by
  have : isS (srcM xs (nm (pidx a))) = true := SVal_M h (pidx a) (pidx_spec ha).1
  rw [(pidx_spec ha).2] at this
  exact isS_size this
end Go.PF
namespace Go.Proofs.Ytcpibkffeenehaa
open Go.RowKit Go.PM Go.PD Go.PF Go.Lib
attribute [local go_sem] Oper.semAt_some
theorem par_full {l : List UInt8} (h : preOk l l.length) : parOk l = inB (l.length : Int) 1 4 := by
  unfold preOk at h
  rw [List.take_length] at h
  unfold parOk inB
  rw [decide_eq_true (p := l.Nodup ∧ ∀ c ∈ l, c ∈ regsL) h, Bool.and_true, decide_eq_decide]
  omega
theorem regB (c : UInt8) : decide (c ∈ regsL) = inB (c.toNat : Int) 97 102 := by
  unfold inB
  rw [decide_eq_decide]
  constructor
  · intro h
    simp only [regsL, List.mem_cons, List.not_mem_nil, or_false] at h
    rcases h with rfl | rfl | rfl | rfl | rfl | rfl <;> decide
  · intro h
    have e : c = UInt8.ofNat c.toNat := by simp
    have h2 : c.toNat = 97 ∨ c.toNat = 98 ∨ c.toNat = 99 ∨ c.toNat = 100 ∨ c.toNat = 101 ∨ c.toNat = 102 := by omega
    rw [e]
    rcases h2 with h2 | h2 | h2 | h2 | h2 | h2 <;> rw [h2] <;> decide

set_option maxRecDepth 100000 in
set_option maxHeartbeats 1000000 in
theorem l10Params_c (s : ByteArray) (hs : s.size ≤ 1048576) (w : World) :
    Calls Try.prog 10 #[.string s] w fun e w' => e = .returned (.bool (parOk s.data.toList)) ∧ Below w.heap.size w w' := by
  have HIN := Lib.hid (fun n lo hi W => l1In_c n lo hi W)
  have HFD := Lib.hid (fun (t : ByteArray) c W ht => l13Find_c t c W ht)
  have HX : Hid (∀ k, (s.extract 0 k).data.toList = s.data.toList.take k) := fun k => by rw [extract_data]; simp
  have HL : Hid (∀ k (hk : k < s.size), s.data.toList[k]? = some s[k]) := fun k hk => List.getElem?_eq_getElem (by rw [size_data]; exact hk)
  have HP0 := Lib.hid (pre_zero s.data.toList)
  have HPS := Lib.hid (fun k hk h => pre_step (l := s.data.toList) (k := k) hk h)
  have HNO := Lib.hid (fun k h => par_no (l := s.data.toList) (k := k) h)
  have HFU := Lib.hid (fun h => par_full (l := s.data.toList) h)
  have HSZ := Lib.hid (size_data s)
  generalize s.data.toList = l at *
  go_enter Try.func10, Try.ntmps10
  go_wp2
  go_loopw [3, 6] (fun _ i wr => ∃ k : Nat, k ≤ s.size ∧ i = .int .i64 k ∧ Hid (preOk l k) ∧ Below w.heap.size w wr) (fun _ i _ => s.size - (RowKit.intOf i).toNat)
  case atStart => exact ⟨0, by omega, rfl, HP0.out, Below.refl _ _⟩
  case round =>
    obtain ⟨k, hk, rfl, hp, hb⟩ := hrel
    have hbs := hb.size
    by_cases hlt : k < s.size
    · have hll : k < l.length := by rw [HSZ.out]; exact hlt
      have i0 : (0 : Int) ≤ (k : Int) := by omega
      have i1 : (k : Int) < (s.size : Int) := by omega
      have i2 : (k : Int) ≤ (s.size : Int) := by omega
      have HST := Lib.hid (HPS.out k hll hp.out)
      rw [show l[k] = s[k] from (List.getElem_eq_iff hll).2 (HL.out k hlt)] at HST
      have hfd := fun W => HFD.out (s.extract 0 k) s[k] W (by rw [ByteArray.size_extract]; omega)
      rw [HX.out k] at hfd
      have HF := Lib.hid hfd
      have HII := Lib.hid (fun W => HIN.out ((s[k].toNat : Nat) : Int) 97 102 W)
      have hreg := regB s[k]
      clear hfd hll
      have hu8 := wrap64_u8 s[k]
      generalize hc : s[k] = c at *
      rcases Bool.eq_false_or_eq_true (inB (c.toNat : Int) 97 102) with h1 | h1
      · rw [h1] at hreg HII
        by_cases hin : (0 : Int) ≤ indexByte (l.take k) c
        · have HN : Hid (parOk l = false) := HNO.out (k + 1) (fun h => ((HST.out.1 h).2) ((indexByte_mem _ _).1 hin))
          go_wp2
          refine wp_region_ext wr.heap.size (by kernel_rfl) (by kernel_rfl) ?_
          repeat (go_big_quiet_step (first | (go_at_call 20; exact ext_same _ (HII.out _)) | (go_at_call 12; exact ext_same _ (HF.out _))))
          refine wpQuiet_nil ?_
          intro w2 hw'
          obtain ⟨xw, hxw⟩ := hw'
          have hb2 := xw.property
          rw [← hxw] at hb2
          clear hxw xw
          have hbw := hb.trans (hb2.mono hbs)
          clear hb2
          go_wp2
          go_ret
          exact ⟨by rw [HN.out]; rfl, hbw⟩
        · have HK : Hid (preOk l (k + 1)) := HST.out.2 ⟨of_decide_eq_true hreg, fun hm => hin ((indexByte_mem _ _).2 hm)⟩
          go_wp2
          refine wp_region_ext wr.heap.size (by kernel_rfl) (by kernel_rfl) ?_
          repeat (go_big_quiet_step (first | (go_at_call 20; exact ext_same _ (HII.out _)) | (go_at_call 12; exact ext_same _ (HF.out _))))
          refine wpQuiet_nil ?_
          intro w2 hw'
          obtain ⟨xw, hxw⟩ := hw'
          have hb2 := xw.property
          rw [← hxw] at hb2
          clear hxw xw
          have hbw := hb.trans (hb2.mono hbs)
          clear hb2
          go_wp2
          go_roundw
          case rel => exact ⟨k + 1, by omega, by go_num, HK, hbw⟩
          case measure => simp [RowKit.intOf]; omega
      · rw [h1] at hreg HII
        have HN : Hid (parOk l = false) := HNO.out (k + 1) (fun h => (of_decide_eq_false hreg) (HST.out.1 h).1)
        go_wp2
        refine wp_region_ext wr.heap.size (by kernel_rfl) (by kernel_rfl) ?_
        repeat (go_big_quiet_step (first | (go_at_call 20; exact ext_same _ (HII.out _)) | (go_at_call 12; exact ext_same _ (HF.out _))))
        refine wpQuiet_nil ?_
        intro w2 hw'
        obtain ⟨xw, hxw⟩ := hw'
        have hb2 := xw.property
        rw [← hxw] at hb2
        clear hxw xw
        have hbw := hb.trans (hb2.mono hbs)
        clear hb2
        go_wp2
        go_ret
        exact ⟨by rw [HN.out]; rfl, hbw⟩
    · have hk' : k = l.length := by rw [HSZ.out]; omega
      have HE : Hid (parOk l = inB (s.size : Int) 1 4) := by
        show _ = _
        rw [← HSZ.out]
        refine HFU.out ?_
        rw [← hk']; exact hp.out
      have i1 : ¬ (k : Int) < (s.size : Int) := by omega
      clear hk'
      go_wp2_with (first | (go_at_call 20; refine (HIN.out _ _ _ _).mono ?_; rintro e w' ⟨rfl, rfl⟩))
      go_ret
      exact ⟨by rw [HE.out]; rfl, hb⟩
set_option maxRecDepth 100000 in
set_option maxHeartbeats 800000 in
theorem l10Args_c (ps : ByteArray) (xs : List Mv) (v : Value) (w : World) (hx : RdM w v xs) (hp : ps.size ≤ 1048576) (hS : ∀ c ∈ ps.data.toList, (srcM xs (ch c)).size = 1) :
    Calls Try.prog 13 #[.string ps, v] w fun e w' => e = .returned (.string (arB (srcM xs) ps.data.toList)) ∧ Below w.heap.size w w' := by
  have HS := Lib.hid (fun W (hW : Below w.heap.size w W) a => l1Source_c xs v a W (hx.below hW))
  have HST := Lib.hid (fun k hk => arB_step (srcM xs) ps k hk)
  have HZ : Hid (∀ k, k ≤ ps.size → (arB (srcM xs) (ps.data.toList.take k)).size = k) := fun k hk => by
    rw [arB_size (fun c hc => hS c (List.mem_of_mem_take hc)), List.length_take, size_data]; omega
  have HF : Hid (arB (srcM xs) (ps.data.toList.take ps.size) = arB (srcM xs) ps.data.toList) := by
    show _ = _
    rw [List.take_of_length_le (by rw [size_data]; exact Nat.le_refl _)]
  have H0 : Hid (arB (srcM xs) (ps.data.toList.take 0) = ⟨#[]⟩) := rfl
  have H1 : Hid (∀ k, k < ps.size → (srcM xs (ps.extract k (k + 1))).size = 1) := fun k hk => by
    have hl : k < ps.data.toList.length := by rw [size_data]; exact hk
    rw [extract_one ps k hk, List.getD_eq_getElem?_getD, List.getElem?_eq_getElem hl]
    exact hS _ (List.getElem_mem hl)
  clear hx hS
  generalize hS : srcM xs = S at *
  clear hS
  generalize ps.data.toList = l at *
  go_enter Try.func13, Try.ntmps13
  go_wp2
  go_loopw [5, 6, 9] (fun o _ i wr => ∃ (k : Nat), k ≤ ps.size ∧ i = .int .i64 k ∧ o = .string (arB S (l.take k)) ∧ Below w.heap.size w wr) (fun _ _ i _ => ps.size - (RowKit.intOf i).toNat)
  case atStart => exact ⟨0, by omega, rfl, by rw [H0.out], by (repeat' (first | (with_reducible exact Below.refl _ _) | (with_reducible assumption) | (with_reducible refine Below.alloc ?_ ?_ _) | (with_reducible refine Below.drew ?_) | (with_reducible refine Below.setCell ?_ ?_ _) | (with_reducible exact Nat.le_refl _) | omega | ((repeat (first | rewrite [World.size_alloc] | rewrite [World.size_setCell] | rewrite [World.size_drew])); omega) | (simp; omega) | (simp; done)))⟩
  case round =>
    obtain ⟨k, hk, rfl, rfl, hb⟩ := hrel
    have hbs := hb.size
    by_cases hlt : k < ps.size
    · have i0 : (0 : Int) ≤ (k : Int) := by omega
      have i1 : (k : Int) < (ps.size : Int) := by omega
      have i2 : (k : Int) + 1 ≤ (ps.size : Int) := by omega
      have HSS := Lib.hid (HST.out k hlt)
      have hz := HZ.out k hk
      have hz1 := H1.out k hlt
      have HC := Lib.hid (HS.out wr hb (ps.extract k (k + 1)))
      generalize arB S (l.take k) = cur at *
      generalize hq : ps.extract k (k + 1) = q at *
      generalize S q = sq at *
      go_wp2_with fail
      refine HC.out.mono ?_
      rintro e w2 ⟨rfl, hb2⟩
      have hbw := hb.trans (hb2.mono hbs)
      go_wp2
      go_roundw
      case rel => exact ⟨k + 1, by omega, by go_num, by rw [← HSS.out], hbw⟩
      case measure => simp [RowKit.intOf]; omega
    · have HK : Hid (k = ps.size) := by show _ = _; omega
      have i1 : ¬ (k : Int) < (ps.size : Int) := by omega
      go_wp2
      go_ret
      exact ⟨by rw [← HF.out, HK.out]; rfl, hb⟩
end Go.Proofs.Ytcpibkffeenehaa
namespace Go.PF
open Go.PM Go.PD Go.RowKit Go.Lib
theorem mv_sz {xs : List Mv} (h : MV xs) : ∀ m ∈ xs, m.1.size ≤ 9223372036854775807 ∧ m.2.size ≤ 9223372036854775807 := fun m hm => by
  have := h.1 m hm
  unfold mok at this
  rw [Bool.and_eq_true] at this
  rw [isP_size this.1, isS_size this.2]
  decide
def sdOk (ps az : ByteArray) : Bool := clOk ps.data.toList az.data.toList && decide (ps = az)
def ag0 (ps : List UInt8) (xs : List Mv) (k : Nat) : Prop := ∀ j (_ : j < k) (hj : j < xs.length), (decide (xs[j].1 = xs[j].2) || inPs ps xs[j]) = true
theorem arB_one {ps : List UInt8} (hp : parOk ps = true) {xs : List Mv} (h : MV xs) : ∀ c ∈ ps, (srcM xs (ch c)).size = 1 := fun c hc => src_one h (par_place hp c hc)
end Go.PF
namespace Go.Proofs.Ytcpibkffeenehaa
open Go.RowKit Go.PM Go.PD Go.PF Go.Lib
attribute [local go_sem] Oper.semAt_some
def coI (ps az : List UInt8) : Int := if clOk ps az then cioI (clM ps az) else -1

set_option maxRecDepth 100000 in
set_option maxHeartbeats 2000000 in
theorem spArgsOf_c (ps : ByteArray) (hp : ps.size ≤ 1048576) (xs : List Mv) (v : Value) (w : World) (hx : RdM w v xs) (hz : ∀ m ∈ xs, m.1.size ≤ 9223372036854775807 ∧ m.2.size ≤ 9223372036854775807) (hn : xs.length ≤ 1048576) :
    Calls Try.prog 5 #[.string ps, v] w fun e w' => e = .returned (.tuple #[.string (agB ps.data.toList xs), .bool (agOk ps.data.toList xs)]) ∧ Below w.heap.size w w' := by
  have HP := Lib.hid (l10Params_c ps hp w)
  have HMV := Lib.hid (fun W (hW : Below w.heap.size w W) => spMovesValid_c xs v W (hx.below hW) hz hn)
  have HX := Lib.hid (fun W (hW : Below w.heap.size w W) => hx.below hW)
  have HOB : Hid (agB ps.data.toList xs = okS (agOk ps.data.toList xs) (arB (srcM xs) ps.data.toList)) := rfl
  have HOK : Hid (agOk ps.data.toList xs = ((parOk ps.data.toList && mvalid xs) && agS ps.data.toList xs)) := rfl
  have HO1 : Hid (∀ s, okS true s = s) := fun _ => rfl
  have HO0 : Hid (∀ s, okS false s = ⟨#[]⟩) := fun _ => rfl
  rw [HOB.out]
  rcases Bool.eq_false_or_eq_true (parOk ps.data.toList) with h1 | h1
  · rcases Bool.eq_false_or_eq_true (mvalid xs) with h2 | h2
    · have hMV : MV xs := by simpa [mvalid] using h2
      have HA := Lib.hid (fun W (hW : Below w.heap.size w W) => l10Args_c ps xs v W (hx.below hW) hp (arB_one h1 hMV))
      have HOK2 : Hid (agOk ps.data.toList xs = agS ps.data.toList xs) := by show _ = _; rw [HOK.out, h1, h2]; rfl
      have HNO := Lib.hid (fun k hk h => agS_at (ps := ps.data.toList) (xs := xs) k hk h)
      have HYES := Lib.hid (fun h => agS_all (ps := ps.data.toList) (xs := xs) h)
      have HFD := Lib.hid (fun c W => l13Find_c ps c W (by omega))
      have HKEY : Hid (∀ k (hk : k < xs.length), ∃ c, xs[k].1 = ⟨#[c]⟩ ∧ inPs ps.data.toList xs[k] = decide ((0 : Int) ≤ indexByte ps.data.toList c)) := fun k hk => by
        have hm := hMV.1 _ (List.getElem_mem hk)
        unfold mok at hm
        rw [Bool.and_eq_true] at hm
        obtain ⟨c, hc⟩ := one_of_size (isP_size hm.1)
        refine ⟨c, hc, ?_⟩
        unfold inPs
        rw [hc, decide_eq_decide]
        exact (indexByte_mem _ _).symm
      rw [h1] at HP
      rw [h2] at HMV
      rw [HOK2.out]
      obtain ⟨A, cap, rfl, hn', hc, hcell⟩ := hx.open
      clear hx hz h1 h2 hMV HOK HOK2 HOB
      generalize arB (srcM xs) ps.data.toList = ar at *
      generalize agS ps.data.toList xs = ag at *
      generalize ps.data.toList = pl at *
      go_enter Try.func5, Try.ntmps5
      go_wp2_with fail
      refine HP.out.mono ?_
      rintro e w1 ⟨rfl, hb1⟩
      have hs1 := hb1.size
      go_wp2_with fail
      refine (HMV.out _ hb1).mono ?_
      rintro e w2 ⟨rfl, hb2⟩
      have hB2 := hb1.trans (hb2.mono hs1)
      clear hb1 hb2
      go_wp2
      go_loopw [7, 18] (fun _ i wr => ∃ (k : Nat), k ≤ xs.length ∧ i = .int .i64 k ∧ Hid (∀ j (_ : j < k) (hj : j < xs.length), (decide (xs[j].1 = xs[j].2) || inPs pl xs[j]) = true) ∧ Below w.heap.size w wr) (fun _ i _ => xs.length - (RowKit.intOf i).toNat)
      case atStart => exact ⟨0, by omega, rfl, fun j hj _ => absurd hj (Nat.not_lt_zero j), hB2⟩
      case round =>
        obtain ⟨k, hk, rfl, hall, hb⟩ := hrel
        have hbs := hb.size
        by_cases hlt : k < xs.length
        · obtain ⟨b, off, rfl, hbl, hc1, hc2⟩ := hcell k hlt
          have hd1 := (hb.cell (p := ⟨b, off + k * 2, none⟩) hbl).trans hc1
          have hd2 := (hb.cell (p := ⟨b, off + k * 2 + 1, none⟩) hbl).trans hc2
          obtain ⟨c, hxc, hin⟩ := HKEY.out k hlt
          have HNK := Lib.hid (HNO.out k hlt)
          have HNX : Hid ((decide (xs[k].1 = xs[k].2) || inPs pl xs[k]) = true → ∀ j (_ : j < k + 1) (hj : j < xs.length), (decide (xs[j].1 = xs[j].2) || inPs pl xs[j]) = true) := fun h j hjk hj => by
            by_cases e : j = k
            · subst e; exact h
            · exact hall.out j (by omega) hj
          have HFC : Hid (∀ (a : ByteArray) (_ : a = ⟨#[c]⟩) (h0 : 0 < a.size) W, Calls Try.prog 12 #[.string ps, .int .u8 (a[0]'h0).toNat] W fun e w' => e = .returned (.int .i64 (indexByte pl c)) ∧ W = w') := fun a ha h0 W => by subst ha; exact HFD.out c W
          have HFA := Lib.hid (HFC.out _ hxc)
          have ha1 : xs[k].1.size = 1 := by rw [hxc]; rfl
          rw [hin] at HNK HNX
          have i0 : (0 : Int) ≤ (k : Int) := by omega
          have i1 : (k : Int) < (xs.length : Int) := by omega
          clear hc1 hc2 hcell hin hxc
          clear HFC
          generalize xs[k].2 = x2 at *
          generalize xs[k].1 = x1 at *
          have hbq := beq_str x1 x2
          have i2 : (0 : Int) < (x1.size : Int) := by omega
          by_cases he : x1 = x2
          · rw [decide_eq_true he] at hbq HNX
            have HK := Lib.hid (HNX.out rfl)
            clear he
            go_wp2
            go_roundw
            case rel => exact ⟨k + 1, by omega, by go_num, HK, by (repeat' (first | (with_reducible exact Below.refl _ _) | (with_reducible assumption) | (with_reducible refine Below.alloc ?_ ?_ _) | (with_reducible refine Below.drew ?_) | (with_reducible refine Below.setCell ?_ ?_ _) | (with_reducible exact Nat.le_refl _) | omega | ((repeat (first | rewrite [World.size_alloc] | rewrite [World.size_setCell] | rewrite [World.size_drew])); omega) | (simp; omega) | (simp; done)))⟩
            case measure => simp [RowKit.intOf]; omega
          · rw [decide_eq_false he] at hbq HNX HNK
            clear he
            by_cases hf : (0 : Int) ≤ indexByte pl c
            · rw [decide_eq_true hf] at HNX
              have HK := Lib.hid (HNX.out rfl)
              have t1 : ¬ indexByte pl c < 0 := by omega
              go_wp2_with (go_at_call 12; refine (HFA.out _ _).mono ?_; rintro e w' ⟨rfl, rfl⟩)
              go_roundw
              case rel => exact ⟨k + 1, by omega, by go_num, HK, by (repeat' (first | (with_reducible exact Below.refl _ _) | (with_reducible assumption) | (with_reducible refine Below.alloc ?_ ?_ _) | (with_reducible refine Below.drew ?_) | (with_reducible refine Below.setCell ?_ ?_ _) | (with_reducible exact Nat.le_refl _) | omega | ((repeat (first | rewrite [World.size_alloc] | rewrite [World.size_setCell] | rewrite [World.size_drew])); omega) | (simp; omega) | (simp; done)))⟩
              case measure => simp [RowKit.intOf]; omega
            · rw [decide_eq_false hf] at HNK
              have HF := Lib.hid (HNK.out rfl)
              have t1 : indexByte pl c < 0 := by omega
              go_wp2_with (go_at_call 12; refine (HFA.out _ _).mono ?_; rintro e w' ⟨rfl, rfl⟩)
              go_ret2
              exact ⟨by rw [HF.out, HO0.out]; rfl, by (repeat' (first | (with_reducible exact Below.refl _ _) | (with_reducible assumption) | (with_reducible refine Below.alloc ?_ ?_ _) | (with_reducible refine Below.drew ?_) | (with_reducible refine Below.setCell ?_ ?_ _) | (with_reducible exact Nat.le_refl _) | omega | ((repeat (first | rewrite [World.size_alloc] | rewrite [World.size_setCell] | rewrite [World.size_drew])); omega) | (simp; omega) | (simp; done)))⟩
        · have i1 : ¬ (k : Int) < (xs.length : Int) := by omega
          have HT : Hid (ag = true) := HYES.out fun j hj => hall.out j (by omega) hj
          have HAC := Lib.hid (HA.out wr hb)
          go_wp2_with fail
          refine HAC.out.mono ?_
          rintro e w4 ⟨rfl, hb4⟩
          go_wp2
          go_ret2
          exact ⟨by rw [HT.out, HO1.out]; rfl, hb.trans (hb4.mono hbs)⟩
    · have HOK2 : Hid (agOk ps.data.toList xs = false) := by show _ = _; rw [HOK.out, h1, h2]; rfl
      rw [h1] at HP
      rw [h2] at HMV
      rw [HOK2.out, HO0.out]
      clear h1 h2 HOK HOK2 HOB
      go_enter Try.func5, Try.ntmps5
      go_wp2_with fail
      refine HP.out.mono ?_
      rintro e w1 ⟨rfl, hb1⟩
      have hs1 := hb1.size
      go_wp2_with fail
      refine (HMV.out _ hb1).mono ?_
      rintro e w2 ⟨rfl, hb2⟩
      have hB2 := hb1.trans (hb2.mono hs1)
      go_wp2
      go_ret2
      exact ⟨rfl, hB2⟩
  · have HOK2 : Hid (agOk ps.data.toList xs = false) := by show _ = _; rw [HOK.out, h1]; rfl
    rw [h1] at HP
    rw [HOK2.out, HO0.out]
    clear h1 HOK HOK2 HOB
    go_enter Try.func5, Try.ntmps5
    go_wp2_with fail
    refine HP.out.mono ?_
    rintro e w1 ⟨rfl, hb1⟩
    go_wp2
    go_ret2
    exact ⟨rfl, hb1⟩
end Go.Proofs.Ytcpibkffeenehaa
