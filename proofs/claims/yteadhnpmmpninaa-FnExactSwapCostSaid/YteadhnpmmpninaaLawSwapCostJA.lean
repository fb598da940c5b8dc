import Derived.Test.YteadhnpmmpninaaSwpP
import Derived.Test.YteadhnpmmpninaaNames
import Derived.Test.YteadhnpmmpninaaTail
import Derived.Test.YteadhnpmmpninaaRow
import Derived.Test.YteadhnpmmpninaaComp
import Derived.Test.YteadhnpmmpninaaUndoP
import Derived.Test.YteadhnpmmpninaaRange
import Derived.Test.YteadhnpmmpninaaList
import Derived.Test.YteadhnpmmpninaaP2
import Derived.Test.YteadhnpmmpninaaApp
import Derived.Test.YteadhnpmmpninaaHold
import Derived.Test.YteadhnpmmpninaaBelow
import Derived.Scope
import Derived.WalkMore
import Derived.Test.YteadhnpmmpninaaBusy
import Derived.Test.YteadhnpmmpninaaLeaves
import Derived.Deep.RegionHeld3
namespace Go.PS
open Go.PM Go.RowKit Go.PW

/-- how many of a list are less than a number; how many pairs of a list descend -/
def cntL (a : Nat) (xs : List Nat) : Nat := (xs.filter fun x => decide (x < a)).length
def invL : List Nat → Nat
  | [] => 0
  | a :: xs => cntL a xs + invL xs
theorem cntL_app (a : Nat) (xs ys : List Nat) : cntL a (xs ++ ys) = cntL a xs + cntL a ys := by simp [cntL]
theorem cntL_cons (a b : Nat) (xs : List Nat) : cntL a (b :: xs) = (if b < a then 1 else 0) + cntL a xs := by
  unfold cntL
  rw [List.filter_cons]
  by_cases h : b < a
  · rw [if_pos (by simpa using h), if_pos h]; simp only [List.length_cons]; omega
  · rw [if_neg (by simpa using h), if_neg h]; omega
theorem cntL_turn (c : Nat) (l r : List Nat) (a b : Nat) : cntL c (l ++ a :: b :: r) = cntL c (l ++ b :: a :: r) := by
  rw [cntL_app, cntL_app, cntL_cons, cntL_cons, cntL_cons, cntL_cons]; omega
theorem invL_adj {a b : Nat} (h : b < a) : ∀ (l r : List Nat), invL (l ++ a :: b :: r) = invL (l ++ b :: a :: r) + 1
  | [], r => by
    simp only [List.nil_append, invL, cntL_cons]
    rw [if_pos h, if_neg (by omega)]; omega
  | c :: l, r => by
    have := invL_adj h l r
    simp only [List.cons_append, invL]
    rw [cntL_turn c l r a b, this]; omega
theorem invL_par {a b : Nat} (h : a ≠ b) (l r : List Nat) : invL (l ++ a :: b :: r) % 2 = (invL (l ++ b :: a :: r) + 1) % 2 := by
  rcases Nat.lt_or_ge b a with h1 | h1
  · rw [invL_adj h1]
  · rw [invL_adj (a := b) (b := a) (by omega) l r]; omega
theorem invL_past (a : Nat) (r : List Nat) : ∀ (m l : List Nat), a ∉ m → invL (l ++ a :: (m ++ r)) % 2 = (invL (l ++ (m ++ a :: r)) + m.length) % 2
  | [], l, _ => by simp
  | c :: m, l, h => by
    have hc : a ≠ c := fun e => h (by rw [e]; simp)
    have h1 := invL_par hc l (m ++ r)
    have h2 := invL_past a r m (l ++ [c]) (fun hm => h (by simp [hm]))
    simp only [List.append_assoc, List.cons_append, List.nil_append] at h1 h2 ⊢
    simp only [List.length_cons]
    omega
/-- two numbers of a list that change places -/
theorem invL_tr {a b : Nat} (hab : a ≠ b) (l m r : List Nat) (ha : a ∉ m) (hb : b ∉ m) : invL (l ++ a :: (m ++ b :: r)) % 2 = (invL (l ++ b :: (m ++ a :: r)) + 1) % 2 := by
  have h1 := invL_past a (b :: r) m l ha
  have h2 := invL_past b (a :: r) m l hb
  have h3 := invL_par hab (l ++ m) r
  simp only [List.append_assoc] at h3
  omega
def gl (g : Nat → Nat) : List Nat := [g 0, g 1, g 2, g 3, g 4, g 5, g 6, g 7, g 8]
def invG (g : Nat → Nat) : Nat := invL (gl g)
theorem swp_at (g : Nat → Nat) (p q : Nat) : swp g p q p = g q ∧ swp g p q q = g p ∧ ∀ x, x ≠ p → x ≠ q → swp g p q x = g x :=
  ⟨by show g (tr p q p) = _; rw [tr_left], by show g (tr p q q) = _; rw [tr_right], fun x h1 h2 => by show g (tr p q x) = _; rw [tr_ne h1 h2]⟩
theorem invG_adj (g : Nat → Nat) (k : Nat) (hk : k < 8) (h : g (k + 1) < g k) : invG g = invG (swp g k (k + 1)) + 1 := by
  obtain ⟨e1, e2, e3⟩ := swp_at g k (k + 1)
  unfold invG gl
  match k, hk with
  | 0, _ => rw [e1, e2, e3 2 (by omega) (by omega), e3 3 (by omega) (by omega), e3 4 (by omega) (by omega), e3 5 (by omega) (by omega), e3 6 (by omega) (by omega), e3 7 (by omega) (by omega), e3 8 (by omega) (by omega)]; exact invL_adj h [] [g 2, g 3, g 4, g 5, g 6, g 7, g 8]
  | 1, _ => rw [e1, e2, e3 0 (by omega) (by omega), e3 3 (by omega) (by omega), e3 4 (by omega) (by omega), e3 5 (by omega) (by omega), e3 6 (by omega) (by omega), e3 7 (by omega) (by omega), e3 8 (by omega) (by omega)]; exact invL_adj h [g 0] [g 3, g 4, g 5, g 6, g 7, g 8]
  | 2, _ => rw [e1, e2, e3 0 (by omega) (by omega), e3 1 (by omega) (by omega), e3 4 (by omega) (by omega), e3 5 (by omega) (by omega), e3 6 (by omega) (by omega), e3 7 (by omega) (by omega), e3 8 (by omega) (by omega)]; exact invL_adj h [g 0, g 1] [g 4, g 5, g 6, g 7, g 8]
  | 3, _ => rw [e1, e2, e3 0 (by omega) (by omega), e3 1 (by omega) (by omega), e3 2 (by omega) (by omega), e3 5 (by omega) (by omega), e3 6 (by omega) (by omega), e3 7 (by omega) (by omega), e3 8 (by omega) (by omega)]; exact invL_adj h [g 0, g 1, g 2] [g 5, g 6, g 7, g 8]
  | 4, _ => rw [e1, e2, e3 0 (by omega) (by omega), e3 1 (by omega) (by omega), e3 2 (by omega) (by omega), e3 3 (by omega) (by omega), e3 6 (by omega) (by omega), e3 7 (by omega) (by omega), e3 8 (by omega) (by omega)]; exact invL_adj h [g 0, g 1, g 2, g 3] [g 6, g 7, g 8]
  | 5, _ => rw [e1, e2, e3 0 (by omega) (by omega), e3 1 (by omega) (by omega), e3 2 (by omega) (by omega), e3 3 (by omega) (by omega), e3 4 (by omega) (by omega), e3 7 (by omega) (by omega), e3 8 (by omega) (by omega)]; exact invL_adj h [g 0, g 1, g 2, g 3, g 4] [g 7, g 8]
  | 6, _ => rw [e1, e2, e3 0 (by omega) (by omega), e3 1 (by omega) (by omega), e3 2 (by omega) (by omega), e3 3 (by omega) (by omega), e3 4 (by omega) (by omega), e3 5 (by omega) (by omega), e3 8 (by omega) (by omega)]; exact invL_adj h [g 0, g 1, g 2, g 3, g 4, g 5] [g 8]
  | 7, _ => rw [e1, e2, e3 0 (by omega) (by omega), e3 1 (by omega) (by omega), e3 2 (by omega) (by omega), e3 3 (by omega) (by omega), e3 4 (by omega) (by omega), e3 5 (by omega) (by omega), e3 6 (by omega) (by omega)]; exact invL_adj h [g 0, g 1, g 2, g 3, g 4, g 5, g 6] []
/-- the places from i on, n of them -/
def seg (g : Nat → Nat) (i : Nat) : Nat → List Nat
  | 0 => []
  | n + 1 => g i :: seg g (i + 1) n
theorem seg_app (g : Nat → Nat) : ∀ (n m i : Nat), seg g i (n + m) = seg g i n ++ seg g (i + n) m
  | 0, m, i => by simp [seg]
  | n + 1, m, i => by
    rw [show n + 1 + m = n + m + 1 by omega]
    simp only [seg, List.cons_append]
    rw [seg_app g n m (i + 1), show i + 1 + n = i + (n + 1) by omega]
theorem seg_congr {g g' : Nat → Nat} : ∀ (n i : Nat), (∀ x, i ≤ x → x < i + n → g x = g' x) → seg g i n = seg g' i n
  | 0, _, _ => rfl
  | n + 1, i, h => by
    simp only [seg]
    rw [h i (Nat.le_refl _) (by omega), seg_congr n (i + 1) fun x h1 h2 => h x (by omega) (by omega)]
theorem seg_mem {g : Nat → Nat} {a : Nat} : ∀ (n i : Nat), a ∈ seg g i n → ∃ x, i ≤ x ∧ x < i + n ∧ g x = a
  | 0, _, h => by cases h
  | n + 1, i, h => by
    rcases List.mem_cons.1 h with rfl | h
    · exact ⟨i, Nat.le_refl _, by omega, rfl⟩
    · obtain ⟨x, h1, h2, h3⟩ := seg_mem n (i + 1) h
      exact ⟨x, by omega, by omega, h3⟩
theorem gl_seg (g : Nat → Nat) : gl g = seg g 0 9 := rfl
theorem gl_split (g : Nat → Nat) {i j : Nat} (hij : i < j) (hj : j < 9) : gl g = seg g 0 i ++ g i :: (seg g (i + 1) (j - i - 1) ++ g j :: seg g (j + 1) (8 - j)) := by
  rw [gl_seg, show 9 = i + (1 + ((j - i - 1) + (1 + (8 - j)))) by omega, seg_app, seg_app, seg_app, seg_app]
  simp only [seg, Nat.zero_add, List.cons_append, List.nil_append]
  rw [show i + 1 + (j - i - 1) = j by omega]
theorem invG_tr {g : Nat → Nat} (h : Prm g) {i j : Nat} (hij : i < j) (hj : j < 9) : invG g % 2 = (invG (swp g i j) + 1) % 2 := by
  obtain ⟨e1, e2, e3⟩ := swp_at g i j
  unfold invG
  rw [gl_split g hij hj, gl_split (swp g i j) hij hj, e1, e2]
  rw [seg_congr (g := swp g i j) (g' := g) i 0 fun x _ h2 => e3 x (by omega) (by omega)]
  rw [seg_congr (g := swp g i j) (g' := g) (j - i - 1) (i + 1) fun x h1 h2 => e3 x (by omega) (by omega)]
  rw [seg_congr (g := swp g i j) (g' := g) (8 - j) (j + 1) fun x h1 h2 => e3 x (by omega) (by omega)]
  refine invL_tr (fun e => ?_) _ _ _ (fun hm => ?_) (fun hm => ?_)
  · have := h.inj i j (by omega) hj e; omega
  · obtain ⟨x, h1, h2, h3⟩ := seg_mem _ _ hm
    have := h.inj x i (by omega) (by omega) h3; omega
  · obtain ⟨x, h1, h2, h3⟩ := seg_mem _ _ hm
    have := h.inj x j (by omega) hj h3; omega
/-- swaps one behind the other, seen by the goals -/
def appS (ps : List (Nat × Nat)) (g : Nat → Nat) : Nat → Nat := ps.foldl (fun g p => swp g p.1 p.2) g
theorem appS_app (ps qs : List (Nat × Nat)) (g : Nat → Nat) : appS (ps ++ qs) g = appS qs (appS ps g) := by unfold appS; rw [List.foldl_append]
/-- swaps of two places -/
def okP (ps : List (Nat × Nat)) : Prop := ∀ p ∈ ps, p.1 < 9 ∧ p.2 < 9 ∧ p.1 ≠ p.2
theorem okP_app {ps qs : List (Nat × Nat)} (h1 : okP ps) (h2 : okP qs) : okP (ps ++ qs) := fun p hp => (List.mem_append.1 hp).elim (h1 p) (h2 p)
theorem appS_par : ∀ (ps : List (Nat × Nat)) (g : Nat → Nat), Prm g → okP ps → invG g % 2 = (invG (appS ps g) + ps.length) % 2 ∧ Prm (appS ps g)
  | [], g, h, _ => ⟨by simp [appS], h⟩
  | p :: ps, g, h, ho => by
    obtain ⟨h1, h2, h3⟩ := ho p (by simp)
    have hs := h.swp h1 h2
    obtain ⟨h4, h5⟩ := appS_par ps (swp g p.1 p.2) hs fun q hq => ho q (by simp [hq])
    refine ⟨?_, h5⟩
    show _ = (invG (appS ps (swp g p.1 p.2)) + (ps.length + 1)) % 2
    have h6 : invG g % 2 = (invG (swp g p.1 p.2) + 1) % 2 := by
      rcases Nat.lt_or_ge p.1 p.2 with hlt | hge
      · exact invG_tr h hlt h2
      · rw [swp_comm]; exact invG_tr h (by omega) h1
    omega
theorem invG_id {g : Nat → Nat} (h : ∀ x, x < 9 → g x = x) : invG g = 0 := by
  have : gl g = gl (fun x => x) := by
    rw [gl_seg, gl_seg]; exact seg_congr 9 0 fun x _ h2 => h x (by omega)
  unfold invG; rw [this]; decide
theorem rsW_app : ∀ (n : Nat) (g : Nat → Nat) (p : Nat), Prm g → p < 9 → appS (rsW n g p).1 g = (rsW n g p).2 ∧ okP (rsW n g p).1
  | 0, _, _, _, _ => ⟨rfl, by simp [okP, rsW]⟩
  | n + 1, g, p, h, hp => by
    by_cases e : hold g p = p
    · rw [rsW_stop _ e]; exact ⟨rfl, by simp [okP]⟩
    · rw [rsW_go _ e]
      have h1 := h.hold hp
      obtain ⟨h2, h3⟩ := rsW_app n _ _ (h.swp hp h1.1) h1.1
      refine ⟨h2, fun q hq => ?_⟩
      rcases List.mem_cons.1 hq with rfl | hq
      · exact ⟨hp, h1.1, fun e2 => e e2.symm⟩
      · exact h3 q hq
theorem rsA_app {g : Nat → Nat} (h : Prm g) : ∀ k, k ≤ 9 → appS (rsA k g).1 g = (rsA k g).2 ∧ okP (rsA k g).1
  | 0, _ => ⟨rfl, by simp [okP, rsA]⟩
  | k + 1, hk => by
    obtain ⟨h1, h2⟩ := rsA_app h k (by omega)
    obtain ⟨h3, h4⟩ := rsW_app 9 _ k (rsA_prm h k (by omega)) (by omega)
    refine ⟨?_, okP_app h2 h4⟩
    show appS ((rsA k g).1 ++ _) g = _
    rw [appS_app, h1, h3]; rfl

/-- going through the first k pairs of neighbours once -/
def pas : Nat → (Nat → Nat) → List (Nat × Nat) × (Nat → Nat)
  | 0, g => ([], g)
  | k + 1, g => if (pas k g).2 (k + 1) < (pas k g).2 k then ((pas k g).1 ++ [(k, k + 1)], swp (pas k g).2 k (k + 1)) else pas k g
theorem pas_yes {k : Nat} {g : Nat → Nat} (h : (pas k g).2 (k + 1) < (pas k g).2 k) : pas (k + 1) g = ((pas k g).1 ++ [(k, k + 1)], swp (pas k g).2 k (k + 1)) := by rw [pas, if_pos h]
theorem pas_no {k : Nat} {g : Nat → Nat} (h : ¬ (pas k g).2 (k + 1) < (pas k g).2 k) : pas (k + 1) g = pas k g := by rw [pas, if_neg h]
theorem pas_facts {g : Nat → Nat} (h : Prm g) : ∀ k, k ≤ 8 → Prm (pas k g).2 ∧ invG g = invG (pas k g).2 + (pas k g).1.length ∧ appS (pas k g).1 g = (pas k g).2 ∧ (∀ p ∈ (pas k g).1, p.1 < 8 ∧ p.2 = p.1 + 1) ∧ (pas k g).1.length ≤ k
  | 0, _ => ⟨h, rfl, rfl, by simp [pas], by simp [pas]⟩
  | k + 1, hk => by
    obtain ⟨h1, h2, h3, h4, h5⟩ := pas_facts h k (by omega)
    by_cases hc : (pas k g).2 (k + 1) < (pas k g).2 k
    · rw [pas_yes hc]
      refine ⟨h1.swp (by omega) (by omega), ?_, ?_, fun p hp => ?_, by simp; omega⟩
      · rw [h2, invG_adj _ k (by omega) hc]; simp; omega
      · show appS (_ ++ _) g = _
        rw [appS_app, h3]; rfl
      · rcases List.mem_append.1 hp with hp | hp
        · exact h4 p hp
        · simp at hp; subst hp; exact ⟨by show k < 8; omega, rfl⟩
    · rw [pas_no hc]; exact ⟨h1, h2, h3, h4, by omega⟩
def dsc (g : Nat → Nat) (k : Nat) : Bool := decide (g (k + 1) < g k)
/-- the first k pairs do not descend -/
def upTo (g : Nat → Nat) (k : Nat) : Prop := ∀ j, j < k → ¬ g (j + 1) < g j
theorem pas_up {g : Nat → Nat} : ∀ k, upTo g k → pas k g = ([], g)
  | 0, _ => rfl
  | k + 1, h => by
    have h1 := pas_up k fun j hj => h j (by omega)
    rw [pas_no (by rw [h1]; exact h k (by omega)), h1]
theorem pas_grows (g : Nat → Nat) : ∀ k j, k ≤ j → (pas k g).1.length ≤ (pas j g).1.length
  | k, 0, h => by have : k = 0 := by omega
                  subst this; exact Nat.le_refl _
  | k, j + 1, h => by
    rcases Nat.lt_or_ge j k with h1 | h1
    · have : k = j + 1 := by omega
      subst this; exact Nat.le_refl _
    · refine Nat.le_trans (pas_grows g k j h1) ?_
      by_cases hc : (pas j g).2 (j + 1) < (pas j g).2 j
      · rw [pas_yes hc]; simp
      · rw [pas_no hc]; exact Nat.le_refl _
/-- where a pair descends, something is swapped -/
theorem pas_some {g : Nat → Nat} {k : Nat} (hk : k < 8) (h : g (k + 1) < g k) : 1 ≤ (pas 8 g).1.length := by
  obtain ⟨m, hm, hup⟩ : ∃ m, (m < 8 ∧ g (m + 1) < g m) ∧ upTo g m := by
    have key : ∀ n, n < 8 → g (n + 1) < g n → ∃ m, (m < 8 ∧ g (m + 1) < g m) ∧ upTo g m := by
      intro n
      induction n using Nat.strongRecOn with
      | ind n ih =>
        intro h8 hn
        by_cases h2 : ∃ j, j < n ∧ g (j + 1) < g j
        · obtain ⟨j, h3, h4⟩ := h2; exact ih j h3 (by omega) h4
        · exact ⟨n, ⟨h8, hn⟩, fun j hj hd => h2 ⟨j, hj, hd⟩⟩
    exact key k hk h
  have h1 := pas_up m hup
  have h2 : (pas (m + 1) g).1.length = 1 := by
    rw [pas_yes (by rw [h1]; exact hm.2), h1]; rfl
  have := pas_grows g (m + 1) 8 (by omega)
  omega
/-- goals in order are those of nothing -/
theorem up_id {g : Nat → Nat} (h : Prm g) (hu : upTo g 8) : ∀ x, x < 9 → g x = x := by
  have hlt : ∀ x, x < 8 → g x < g (x + 1) := fun x hx => by
    have h1 := hu x hx
    have h2 : g x ≠ g (x + 1) := fun e => by have := h.inj _ _ (by omega) (by omega) e; omega
    omega
  have hlo : ∀ x, x < 9 → x ≤ g x := by
    intro x
    induction x with
    | zero => intro _; omega
    | succ x ih => intro hx; have := ih (by omega); have := hlt x (by omega); omega
  have hhi : ∀ d, d < 9 → g (8 - d) + d ≤ 8 := by
    intro d
    induction d with
    | zero => intro _; have := h.lt 8 (by omega); simpa using (by omega : g 8 ≤ 8)
    | succ d ih =>
      intro hd
      have h1 := ih (by omega)
      have h2 := hlt (8 - (d + 1)) (by omega)
      rw [show 8 - (d + 1) + 1 = 8 - d by omega] at h2
      omega
  intro x hx
  have h1 := hlo x hx
  have h2 := hhi (8 - x) (by omega)
  rw [show 8 - (8 - x) = x by omega] at h2
  omega
/-- swaps of neighbours, going through all pairs again and again -/
def nbF : Nat → (Nat → Nat) → List (Nat × Nat)
  | 0, _ => []
  | n + 1, g => if (List.range 8).any (dsc g) then (pas 8 g).1 ++ nbF n (pas 8 g).2 else []
theorem nbF_stop (n : Nat) {g : Nat → Nat} (h : upTo g 8) : nbF n g = [] := by
  cases n with
  | zero => rfl
  | succ n =>
    rw [nbF, if_neg]
    rw [List.any_eq_true]
    rintro ⟨k, hk, hd⟩
    exact h k (by simpa using hk) (by simpa [dsc] using hd)
theorem nbF_go (n : Nat) {g : Nat → Nat} {k : Nat} (hk : k < 8) (h : g (k + 1) < g k) : nbF (n + 1) g = (pas 8 g).1 ++ nbF n (pas 8 g).2 := by
  rw [nbF, if_pos]
  rw [List.any_eq_true]
  exact ⟨k, by simpa using hk, by simpa [dsc] using h⟩
theorem up_or (g : Nat → Nat) : upTo g 8 ∨ ∃ k, k < 8 ∧ g (k + 1) < g k := by
  by_cases h : ∃ k, k < 8 ∧ g (k + 1) < g k
  · exact .inr h
  · exact .inl fun j hj hd => h ⟨j, hj, hd⟩
theorem nbF_facts : ∀ (n : Nat) (g : Nat → Nat), Prm g → invG g ≤ n → (nbF n g).length = invG g ∧ (∀ x, x < 9 → appS (nbF n g) g x = x) ∧ ∀ p ∈ nbF n g, p.1 < 8 ∧ p.2 = p.1 + 1
  | n, g, h, hn => by
    rcases up_or g with hu | ⟨k, hk, hd⟩
    · rw [nbF_stop n hu]
      have hid := up_id h hu
      exact ⟨(invG_id hid).symm, fun x hx => hid x hx, by simp⟩
    · have h1 := pas_some hk hd
      obtain ⟨h2, h3, h4, h5, _⟩ := pas_facts h 8 (Nat.le_refl _)
      match n, hn with
      | 0, hn => omega
      | n + 1, hn =>
        rw [nbF_go n hk hd]
        obtain ⟨h6, h7, h8⟩ := nbF_facts n _ h2 (by omega)
        refine ⟨by rw [List.length_append, h6]; omega, fun x hx => ?_, fun p hp => (List.mem_append.1 hp).elim (h5 p) (h8 p)⟩
        rw [appS_app, h4]; exact h7 x hx
theorem cntL_le (a : Nat) (xs : List Nat) : cntL a xs ≤ xs.length := List.length_filter_le _ _
theorem invG_le (g : Nat → Nat) : invG g ≤ 36 := by
  unfold invG gl
  simp only [invL]
  have h0 := cntL_le (g 0) [g 1, g 2, g 3, g 4, g 5, g 6, g 7, g 8]
  have h1 := cntL_le (g 1) [g 2, g 3, g 4, g 5, g 6, g 7, g 8]
  have h2 := cntL_le (g 2) [g 3, g 4, g 5, g 6, g 7, g 8]
  have h3 := cntL_le (g 3) [g 4, g 5, g 6, g 7, g 8]
  have h4 := cntL_le (g 4) [g 5, g 6, g 7, g 8]
  have h5 := cntL_le (g 5) [g 6, g 7, g 8]
  have h6 := cntL_le (g 6) [g 7, g 8]
  have h7 := cntL_le (g 7) [g 8]
  have h8 := cntL_le (g 8) []
  simp only [List.length_cons, List.length_nil] at h0 h1 h2 h3 h4 h5 h6 h7 h8
  omega
/-- swaps that do the same are of an even number more or less -/
theorem par_same {g : Nat → Nat} (h : Prm g) {ps qs : List (Nat × Nat)} (hp : okP ps) (hq : okP qs) (h1 : ∀ x, x < 9 → appS ps g x = x) (h2 : ∀ x, x < 9 → appS qs g x = x) : ps.length % 2 = qs.length % 2 := by
  have h3 := (appS_par ps g h hp).1
  have h4 := (appS_par qs g h hq).1
  rw [invG_id h1] at h3
  rw [invG_id h2] at h4
  omega
/-- labels that swaps join: as many classes as places less swaps, or more -/
theorem labels : ∀ ps : List (Nat × Nat), ∃ L : Nat → Nat, (∀ p ∈ ps, L p.1 = L p.2) ∧ ∀ R : List Nat, (∀ x, x < 9 → ∃ r ∈ R, L x = L r) → 9 ≤ R.length + ps.length
  | [] => ⟨id, by simp, fun R h => by
      have := PM.nodup_le (List.range 9) R List.nodup_range fun x hx => by
        obtain ⟨r, hr, e⟩ := h x (by simpa using hx)
        have e : x = r := e
        rw [e]; exact hr
      simpa using this⟩
  | p :: ps => by
    obtain ⟨L, h1, h2⟩ := labels ps
    refine ⟨joinH L p.1 p.2, fun q hq => ?_, fun R hR => ?_⟩
    · unfold joinH
      rcases List.mem_cons.1 hq with rfl | hq
      · rw [if_pos rfl]
        split
        · rfl
        · rfl
      · rw [h1 q hq]
    · by_cases hc : ∃ r ∈ R, L r = L p.1
      · have := h2 (p.2 :: R) fun x hx => by
          obtain ⟨r, hr, e⟩ := hR x hx
          unfold joinH at e
          by_cases hx1 : L x = L p.1
          · obtain ⟨r', hr', e'⟩ := hc
            exact ⟨r', by simp [hr'], hx1.trans e'.symm⟩
          · rw [if_neg hx1] at e
            by_cases hr1 : L r = L p.1
            · rw [if_pos hr1] at e; exact ⟨p.2, by simp, e⟩
            · rw [if_neg hr1] at e; exact ⟨r, by simp [hr], e⟩
        simp only [List.length_cons] at this ⊢; omega
      · have := h2 (p.1 :: R) fun x hx => by
          obtain ⟨r, hr, e⟩ := hR x hx
          have hr1 : ¬ L r = L p.1 := fun e => hc ⟨r, hr, e⟩
          unfold joinH at e
          rw [if_neg hr1] at e
          by_cases hx1 : L x = L p.1
          · exact ⟨p.1, by simp, hx1⟩
          · rw [if_neg hx1] at e; exact ⟨r, by simp [hr], e⟩
        simp only [List.length_cons] at this ⊢; omega
theorem labels_goal {L : Nat → Nat} : ∀ (ps : List (Nat × Nat)) (g : Nat → Nat), (∀ p ∈ ps, L p.1 = L p.2) → okP ps → (∀ x, x < 9 → appS ps g x = x) → ∀ x, x < 9 → L (g x) = L x
  | [], g, _, _, h, x, hx => by rw [show g x = x from h x hx]
  | p :: ps, g, hL, ho, h, x, hx => by
    obtain ⟨o1, o2, _⟩ := ho p (by simp)
    have ih := labels_goal ps (swp g p.1 p.2) (fun q hq => hL q (by simp [hq])) (fun q hq => ho q (by simp [hq])) h
    have hp := hL p (by simp)
    have h1 := ih (tr p.1 p.2 x) (tr_lt o1 o2 hx)
    have h2 : swp g p.1 p.2 (tr p.1 p.2 x) = g x := by show g (tr _ _ (tr _ _ x)) = _; rw [tr_tr]
    rw [h2] at h1
    rw [h1]
    unfold tr
    by_cases e1 : x = p.1
    · rw [if_pos e1, e1]; exact hp.symm
    · rw [if_neg e1]
      by_cases e2 : x = p.2
      · rw [if_pos e2, e2]; exact hp
      · rw [if_neg e2]
section
variable {f : Nat → ByteArray}
/-- no fewer swaps are enough -/
theorem swaps_least (hf : SV f) (he : Exch (srcT f)) {ps : List (Nat × Nat)} (ho : okP ps) (h : ∀ x, x < 9 → appS ps (invI (srcT f)) x = x) :
    (ringsF (nxT f) 9).flatten.length ≤ ps.length + (ringsF (nxT f) 9).length := by
  obtain ⟨L, h1, h2⟩ := labels ps
  have hL := labels_goal ps _ h1 ho h
  have hn := nice hf
  have hnd := PO.ringsF_nodup hn 9 (Nat.le_refl _)
  have hlow : ∀ r ∈ ringsF (nxT f) 9, ∀ x ∈ r, x < 9 := fun r hr x hx => by
    have hq := PO.ringQ f hf hr
    obtain ⟨i, hi⟩ := List.getElem?_of_mem hx
    have hil := (List.getElem?_eq_some_iff.1 hi).1
    rw [List.getElem?_eq_getElem hil] at hi
    rw [← Option.some.inj hi]; exact hq.low i hil
  -- all places of a ring have the label of its first one
  have hring : ∀ r (hr : r ∈ ringsF (nxT f) 9), ∀ i (hi : i < r.length), L r[i] = L (r.headD 0) := fun r hr => by
    have hq := PO.ringQ f hf hr
    intro i
    induction i with
    | zero =>
      intro hi
      match r, hi with
      | a :: r, _ => rfl
    | succ i ih =>
      intro hi
      have h3 := ih (by omega)
      have h4 := hq.next i (by omega)
      have h5 : (i + 1) % r.length = i + 1 := Nat.mod_eq_of_lt hi
      simp only [h5] at h4
      have h6 := hL _ (hq.low (i + 1) hi)
      have h7 := (exch_sx hf he (hq.low i (by omega))).2.2
      rw [h4] at h7
      rw [h7] at h6
      rw [← h3]; exact h6.symm
  have := h2 ((ringsF (nxT f) 9).map (fun r => r.headD 0) ++ (List.range 9).filter fun x => decide (x ∉ (ringsF (nxT f) 9).flatten)) fun x hx => by
    by_cases hm : x ∈ (ringsF (nxT f) 9).flatten
    · obtain ⟨r, hr, hxr⟩ := List.mem_flatten.1 hm
      obtain ⟨i, hi⟩ := List.getElem?_of_mem hxr
      have hil := (List.getElem?_eq_some_iff.1 hi).1
      rw [List.getElem?_eq_getElem hil] at hi
      refine ⟨r.headD 0, List.mem_append_left _ (List.mem_map.2 ⟨r, hr, rfl⟩), ?_⟩
      rw [← Option.some.inj hi]; exact hring r hr i hil
    · exact ⟨x, List.mem_append_right _ (List.mem_filter.2 ⟨by simpa using hx, by simpa using hm⟩), rfl⟩
  have hcount : (ringsF (nxT f) 9).flatten.length + ((List.range 9).filter fun x => decide (x ∉ (ringsF (nxT f) 9).flatten)).length ≤ 9 := by
    have h3 : ((ringsF (nxT f) 9).flatten ++ (List.range 9).filter fun x => decide (x ∉ (ringsF (nxT f) 9).flatten)).Nodup := by
      rw [List.nodup_append]
      refine ⟨hnd, List.nodup_range.filter _, fun a ha b hb e => ?_⟩
      subst e
      have := (List.mem_filter.1 hb).2
      simp [ha] at this
    have h4 := PW.nodup_le _ 9 h3 fun a ha => by
      rcases List.mem_append.1 ha with ha | ha
      · obtain ⟨r, hr, har⟩ := List.mem_flatten.1 ha
        exact hlow r hr a har
      · simpa using (List.mem_filter.1 ha).1
    simpa using h4
  simp only [List.length_append, List.length_map] at this
  omega
theorem prs_len : ∀ l : List Nat, (prs l).length = l.length - 1
  | [] => rfl
  | [_] => rfl
  | a :: b :: l => by
    have := prs_len (b :: l)
    simp only [prs, List.length_cons] at this ⊢; omega
theorem prs_count : ∀ rs : List (List Nat), (∀ r ∈ rs, 1 ≤ r.length) → (rs.flatMap prs).length + rs.length = rs.flatten.length
  | [], _ => rfl
  | r :: rs, h => by
    have h1 := prs_count rs fun x hx => h x (by simp [hx])
    have h2 := h r (by simp)
    rw [List.flatMap_cons, List.length_append, prs_len, List.length_cons, List.flatten_cons, List.length_append]
    omega
theorem rings_pos (hf : SV f) : ∀ r ∈ ringsF (nxT f) 9, 1 ≤ r.length := fun r hr => by have := (PO.ringQ f hf hr).two; omega
end
end Go.PS
namespace Go.PM
open Go.RowKit
/-- the table with the sources of the first k places in it -/
def mix (f : Nat → ByteArray) (k : Nat) : Nat → ByteArray := fun q => if q < k then srcT f q else f q
theorem mix_zero (f : Nat → ByteArray) : mix f 0 = f := by funext q; simp [mix]
theorem mix_at (f : Nat → ByteArray) (k : Nat) : srcT (mix f k) k = srcT f k := by simp [srcT, mix]
theorem mix_set (f : Nat → ByteArray) (k : Nat) (hk : k < 9) : (tabA (mix f k)).setIfInBounds k (.string (srcT f k)) = tabA (mix f (k + 1)) := by
  have h := tabC_set (mix f k) k hk (srcT f k)
  have e : (fun q => if q = k then srcT f k else mix f k q) = mix f (k + 1) := by
    funext q
    by_cases hq : q = k
    · subst hq; simp [mix]
    · by_cases h2 : q < k
      · simp [mix, hq, h2, Nat.lt_succ_of_lt h2]
      · have : ¬ q < k + 1 := by omega
        simp [mix, hq, h2, this]
  rw [e] at h
  exact h
end Go.PM
namespace Go.Proofs.Yteadhnpmmpninaa
open Go.RowKit Go.PM
attribute [local go_sem] Oper.semAt_some

end Go.Proofs.Yteadhnpmmpninaa
namespace Go.PM
open Go.RowKit
/-- a table of which the first k places have turned -/
def mixG (h f : Nat → ByteArray) (k : Nat) : Nat → ByteArray := fun q => if q < k then h q else f q
theorem mixG_zero (h f : Nat → ByteArray) : mixG h f 0 = f := by funext q; simp [mixG]
theorem mixG_at (h f : Nat → ByteArray) (k : Nat) : mixG h f k k = f k := by simp [mixG]
theorem mixG_src (h f : Nat → ByteArray) (k : Nat) : srcT (mixG h f k) k = srcT f k := by simp [srcT, mixG]
theorem mixG_set (h f : Nat → ByteArray) (k : Nat) (hk : k < 9) : (tabA (mixG h f k)).setIfInBounds k (.string (h k)) = tabA (mixG h f (k + 1)) := by
  have h1 := tabC_set (mixG h f k) k hk (h k)
  have e : (fun q => if q = k then h k else mixG h f k q) = mixG h f (k + 1) := by
    funext q
    by_cases hq : q = k
    · subst hq; simp [mixG]
    · by_cases h2 : q < k
      · simp [mixG, hq, h2, Nat.lt_succ_of_lt h2]
      · have : ¬ q < k + 1 := by omega
        simp [mixG, hq, h2, this]
  rw [e] at h1
  exact h1
theorem mixG_same (h f : Nat → ByteArray) (k : Nat) (e : h k = f k) : mixG h f (k + 1) = mixG h f k := by
  funext q
  by_cases hq : q = k
  · subst hq; simp [mixG, e]
  · by_cases h2 : q < k
    · simp [mixG, h2, Nat.lt_succ_of_lt h2]
    · have : ¬ q < k + 1 := by omega
      simp [mixG, h2, this]
theorem tabC_all (f : Nat → ByteArray) : (tabC f).all (·.oneCell') = true := by simp [tabC, Value.oneCell']
theorem tabX_mixG (h f : Nat → ByteArray) : tabX (mixG h f 9) = tabX h := rfl
end Go.PM
namespace Go.Proofs.Yteadhnpmmpninaa
open Go.RowKit Go.PM Go.Lib
attribute [local go_sem] Oper.semAt_some

end Go.Proofs.Yteadhnpmmpninaa
namespace Go.Proofs.Yteadhnpmmpninaa
open Go.RowKit Go.PM Go.Lib
attribute [local go_sem] Oper.semAt_some

set_option maxRecDepth 100000 in
set_option maxHeartbeats 4000000 in
theorem idle_c (f : Nat → ByteArray) (w : World) :
    Calls Try.prog 71 #[tabX f] w fun e w' => e = .returned (tabX (mixG (noIdle f) f 9)) ∧ Below w.heap.size w w' := by
  refine (callsIn_wide (n := 5)).1 ?_
  refine callsIn_of_wp_marks Try.func71 rfl trivial ?_ rfl
  simp only [Try.ntmps71, List.size_toArray, List.length_cons, List.length_nil, Nat.reduceAdd, Nat.reduceSub, Array.replicate_succ, Array.replicate_zero, List.push_toArray, List.append_toArray, List.nil_append, List.cons_append]
  gi_wp2
  refine range_law (F := Fence.wide) (gf := 89) (lf := #[.int .i64 9]) (lb := #[]) rfl (by decide) rfl trivial (fun args w => rfl) (encs := fun p : Nat => #[.int .i64 p]) (xs := List.range 9)
    (below_iter _ _ trivial rfl (by decide)) (fun _ => rfl)
    (fun pre W => At W w.heap.size 56 (tabA (mixG (noIdle f) f pre.length)) ∧ At W (w.heap.size + 1) 56 zA ∧ Below w.heap.size w W)
    (fun _ _ _ => False) ?_ (fun _ => ownFrom_pure _ _) ?_ (fun p => { tmps := #[tabX f, .pointer (some ⟨w.heap.size, 0, none⟩), .pointer (some ⟨w.heap.size + 1, 0, none⟩), .int .i64 p, .func (.func 89) #[.int .i64 9] #[], .int .i64 p, undef, undef, undef, undef, undef, undef, undef, undef, undef], defers := [] }) ?_ ?_ ?_ ?_
  · rintro s A A' row ⟨h1, h2, h3⟩ hg hr
    have hr' : ∀ r, row = some r → w.heap.size + 2 ≤ r := fun r e => by have := (hr r e).1; simp only [World.size_alloc] at this; omega
    refine ⟨(hg.block _ h1.lt (fun e => ?_)).trans h1, (hg.block _ h2.lt (fun e => ?_)).trans h2, h3.trans (below_grown hg h3.size (fun g e => ?_))⟩
    · have := hr' _ e.symm; omega
    · have := hr' _ e.symm; omega
    · have := hr' _ e; omega
  · refine ⟨?_, ?_, ?_⟩
    · rw [List.length_nil, mixG_zero]
      exact (At.new w _ _).alloc _
    · have := At.new (w.alloc (.cells (tabA f) 56)) 56 zA
      rwa [World.size_alloc] at this
    · exact ((Below.refl _ _).alloc (Nat.le_refl _) _).alloc (by simp [World.size_alloc]) _
  · intro l p W Kc hK
    gi_wp2
    exact hK
  · rintro l pre p W ⟨h1, h2, h3⟩ hp hsz
    obtain ⟨hl, hp9⟩ := pre_len pre p hp
    rw [hl] at h1
    have HL : Hid ((pre ++ [p]).length = p + 1) := by show _ = _; simp [hl]
    have HMS := Lib.hid (mixG_set (noIdle f) f p hp9)
    have HSM := Lib.hid (mixG_same (noIdle f) f p)
    have HNI : Hid (noIdle f p = if f p = nm p then emp else f p) := rfl
    clear hl
    have hpc : (tabA (mixG (noIdle f) f p))[p]? = some (.string (f p)) := by rw [← mixG_at (noIdle f) f p]; exact tabC_at _ p hp9
    have hnm := fun W' => name_c p hp9 W'
    generalize hgm : mixG (noIdle f) f p = g' at *
    have i0 : (0 : Int) ≤ (p : Int) := by omega
    have i1 : (p : Int) < 9 := by omega
    have kl := h1.lt
    have kf : W.drew.frozen? ⟨w.heap.size, p, none⟩ = false := h1.frozen p
    have kc : W.drew.cell? ⟨w.heap.size, p, none⟩ = some (.string (f p)) := (h1.cell p).trans hpc
    generalize nm p = q at *
    generalize f p = s at *
    rcases Bool.eq_false_or_eq_true (s.toList == q.toList) with hd | hd
    all_goals
      have hd' := hd
      rw [beq_str] at hd'
      have HD := Lib.hid hd'
      clear hd'
      gi_wp2
      refine region_quiet_inRound (F := Fence.wide) (C := fun w' => w' = W.drew) rfl (by kernel_rfl) (by kernel_rfl) (by kernel_rfl) rfl ?_
      simp only
      gi_big_quiet_step (fail)
      gi_big_quiet_step (fail)
      gi_big_quiet_step (fail)
      gi_big_quiet_step (fail)
      refine BigFrame.wpQuietIn_want (fun _ _ _ _ => trivial) rfl (fun K hK => ?_)
      gi_big_quiet_op
      refine ⟨_, callsIn_wide.2 ((hnm _).mono (fun e w' h => ⟨h.1, h.2.symm⟩)), hK _ ?_⟩
      clear hK K
      gi_big_quiet_step (fail)
      refine wpQuietIn_nil ?_
      intro w' hw'
      subst hw'
      gi_wp2
    · have hs : s = q := by have := HD.out; rwa [decide_eq_true_eq] at this
      refine ⟨(KeepsNew.drew W).from.trans ((KeepsOthers.setCell _ _ _).from _), KeepsIn.zero (by simp [World.size_setCell]), ?_, At.far (w := W.drew) h2 (by simp) _, Below.setCell (w := W.drew) h3.drew (by show w.heap.size ≤ w.heap.size; omega) _⟩
      rw [HL.out, ← HMS.out, HNI.out, if_pos hs]
      exact At.set (w := W.drew) h1 p _
    · have hs : ¬ s = q := by have := HD.out; rwa [decide_eq_false_iff_not] at this
      refine ⟨(KeepsNew.drew W).from, KeepsIn.zero (Nat.le_refl _), ?_, h2, h3.drew⟩
      rw [HL.out, HSM.out (by rw [HNI.out, if_neg hs])]
      exact h1
  · intro D W hD hI hd
    obtain ⟨h1, h2, h3⟩ := hI
    replace h1 : At W (w.heap.size) 56 (tabC (mixG (noIdle f) f 9)) := h1
    have hl1 := h1.lt
    have hl2 := h2.lt
    have hDD : w.heap.size + 2 ≤ D := by first | omega | simpa [World.size_alloc, Nat.add_assoc] using hD
    generalize hg9 : mixG (noIdle f) f 9 = g9 at *
    have HG9 := Lib.hid hg9
    clear hg9
    gi_wp2_with (first | (refine ldIn_row rfl 56 (.tmp 1) rfl (w.heap.size) 56 (tabC g9) h1 (by rfl) 9 9 Try.underlying56 (by kernel_rfl) ?_) | (refine stIn_row rfl 56 (.tmp 2) (.tmp 14) rfl rfl (w.heap.size + 1) 56 zA (tabC g9) h2 (by rfl) (by rfl) (by kernel_rfl) rfl (tabC_all _) ?_; intro W6 hA6 hg6))
    have d6 : W6.heap[D]? = some (.deferred (some [])) := (hg6.block D (Array.getElem?_eq_some_iff.1 hd).1 (by simp; omega)).trans hd
    have bel : Below w.heap.size w W6 := h3.trans (below_grown hg6 h3.size (fun g hg => by cases hg; omega))
    simp only [Act.put, List.setIfInBounds_toArray, List.set_cons_succ, List.set_cons_zero]
    have fin : LeavesInM Fence.wide 5 Try.prog Try.f71 #[tabX f, .pointer (some ⟨w.heap.size, 0, none⟩), .pointer (some ⟨w.heap.size + 1, 0, none⟩), undef, .func (.func 89) #[.int .i64 9] #[], undef, undef, undef, undef, undef, undef, undef, undef, undef, .agg (tabC g9)]
        (fun e w' => e = Ending.returned (tabX (mixG (noIdle f) f 9)) ∧ Below w.heap.size w w') [] .returning (W6.putObj D (.deferred none)) := by
      exact ⟨_, results_row1 Try.results71 _ _ (w.heap.size + 1) 56 (tabC g9) (by rfl) ((World.putObj_heap_other (by omega)).trans hA6) 9 9 Try.underlying56 (by kernel_rfl), by rw [HG9.out]; rfl, bel.trans ⟨rfl, rfl, rfl, by simp [World.putObj], fun k hk => World.putObj_heap_other (by omega)⟩⟩
    exact ⟨by simp, .inl ⟨D, _, rfl, run_takeDeferred d6, fin⟩⟩
  · intro _ _ _ _ _ _ hf
    exact hf.elim
end Go.Proofs.Yteadhnpmmpninaa
namespace Go.Proofs.Yteadhnpmmpninaa
open Go.RowKit Go.PM Go.Lib
attribute [local go_sem] Oper.semAt_some

set_option maxRecDepth 100000 in
set_option maxHeartbeats 4000000 in
theorem undone_c (f : Nat → ByteArray) (hE : Exch (srcT f)) (w : World) :
    Calls Try.prog 88 #[tabX f] w fun e w' => e = .returned (tabX (bkF f 9)) ∧ Below w.heap.size w w' := by
  refine (callsIn_wide (n := 5)).1 ?_
  refine callsIn_of_wp_marks Try.func88 rfl trivial ?_ rfl
  simp only [Try.ntmps88, List.size_toArray, List.length_cons, List.length_nil, Nat.reduceAdd, Nat.reduceSub, Array.replicate_succ, Array.replicate_zero, List.push_toArray, List.append_toArray, List.nil_append, List.cons_append]
  gi_wp2
  obtain ⟨W0, hW0⟩ : ∃ W0 : World, W0 = ((w.alloc (.cells (tabA f) 56)).alloc (.cells zA 56)).alloc (.cells zA 56) := ⟨_, rfl⟩
  have hS0 : W0.heap.size = w.heap.size + 3 := by rw [hW0]; simp only [World.size_alloc]
  have hB0 : Below w.heap.size w W0 := by rw [hW0]; (repeat' (first | (with_reducible exact Below.refl _ _) | (with_reducible assumption) | (with_reducible refine Below.alloc ?_ ?_ _) | (with_reducible refine Below.drew ?_) | (with_reducible refine Below.setCell ?_ ?_ _) | (with_reducible exact Nat.le_refl _) | omega | ((repeat (first | rewrite [World.size_alloc] | rewrite [World.size_setCell] | rewrite [World.size_drew])); omega) | (simp; omega) | (simp; done)))
  have hA0 : At W0 w.heap.size 56 (tabA f) := by rw [hW0]; exact ((At.new _ _ _).alloc _).alloc _
  have hA1 : At W0 (w.heap.size + 1) 56 zA := by
    rw [hW0]; have := (At.new (w.alloc (.cells (tabA f) 56)) 56 zA).alloc (.cells zA 56)
    rwa [World.size_alloc] at this
  have hA2 : At W0 (w.heap.size + 1 + 1) 56 zA := by
    rw [hW0]; have := At.new ((w.alloc (.cells (tabA f) 56)).alloc (.cells zA 56)) 56 zA
    rwa [World.size_alloc, World.size_alloc] at this
  rw [← hW0]
  clear hW0
  refine range_law (F := Fence.wide) (gf := 89) (lf := #[.int .i64 9]) (lb := #[]) rfl (by decide) rfl trivial (fun args w => rfl) (encs := fun p : Nat => #[.int .i64 p]) (xs := List.range 9)
    (below_iter _ _ trivial rfl (by decide)) (fun _ => rfl)
    (fun pre W => At W (w.heap.size + 1 + 1) 56 (tabA (bkF f pre.length)) ∧ At W (w.heap.size + 1) 56 zA ∧ Below w.heap.size w W ∧ At W w.heap.size 56 (tabA f))
    (fun _ _ _ => False) ?_ (fun _ => ownFrom_pure _ _) ?_ (fun p => { tmps := #[tabX f, .pointer (some ⟨w.heap.size, 0, none⟩), .pointer (some ⟨w.heap.size + 1, 0, none⟩), .pointer (some ⟨w.heap.size + 1 + 1, 0, none⟩), .int .i64 p, undef, undef, .func (.func 89) #[.int .i64 9] #[], .int .i64 p, undef, undef, undef, undef, undef, undef, undef, undef, undef, undef, undef, undef], defers := [] }) ?_ ?_ ?_ ?_
  · rintro s A A' row ⟨h1, h2, h3, h4⟩ hg hr
    have hr' : ∀ r, row = some r → w.heap.size + 3 ≤ r := fun r e => by have := (hr r e).1; omega
    refine ⟨(hg.block _ h1.lt (fun e => ?_)).trans h1, (hg.block _ h2.lt (fun e => ?_)).trans h2, h3.trans (below_grown hg h3.size (fun g e => ?_)), (hg.block _ h4.lt (fun e => ?_)).trans h4⟩
    · have := hr' _ e.symm; omega
    · have := hr' _ e.symm; omega
    · have := hr' _ e; omega
    · have := hr' _ e.symm; omega
  · exact ⟨hA2, hA1, hB0, hA0⟩
  · intro l p W Kc hK
    gi_wp2
    exact hK
  · clear hA0 hA1 hA2 hB0
    rintro l pre p W ⟨h1, h2, h3, h4⟩ hp hsz
    obtain ⟨hl, hp9⟩ := pre_len pre p hp
    rw [hl] at h1
    have HL : Hid ((pre ++ [p]).length = p + 1) := by show _ = _; simp [hl]
    have HBK : Hid (bkF f (p + 1) = upd (bkF f p) (pidx (srcT f p)) (nm p)) := rfl
    have hip := hE.place hp9
    have hi9 := (pidx_spec hip).1
    have HTS := Lib.hid (tabC_set (bkF f p) (pidx (srcT f p)) hi9 (nm p))
    have hsrc := source_c f p hp9 W
    have HIX := Lib.hid (fun W' => indexOf_yes (srcT f p) hip W')
    have HNM := Lib.hid (fun W' => name_c p hp9 W')
    have hpc : (tabA (bkF f p))[pidx (srcT f p)]? = some (.string (bkF f p (pidx (srcT f p)))) := tabC_at _ _ hi9
    clear hl hip
    generalize hgm : bkF f p = g' at *
    generalize nm p = q at *
    generalize pidx (srcT f p) = j at *
    have HSRC := Lib.hid hsrc
    clear hsrc
    have i0 : (0 : Int) ≤ (j : Int) := by omega
    have i1 : (j : Int) < 9 := by omega
    have l1 := h1.lt
    have l2 := h2.lt
    have l4 := h4.lt
    have q0 : W.cell? ⟨w.heap.size, 0, none⟩ = some (.string (f 0)) := h4.cell 0
    have q1 : W.cell? ⟨w.heap.size, 1, none⟩ = some (.string (f 1)) := h4.cell 1
    have q2 : W.cell? ⟨w.heap.size, 2, none⟩ = some (.string (f 2)) := h4.cell 2
    have q3 : W.cell? ⟨w.heap.size, 3, none⟩ = some (.string (f 3)) := h4.cell 3
    have q4 : W.cell? ⟨w.heap.size, 4, none⟩ = some (.string (f 4)) := h4.cell 4
    have q5 : W.cell? ⟨w.heap.size, 5, none⟩ = some (.string (f 5)) := h4.cell 5
    have q6 : W.cell? ⟨w.heap.size, 6, none⟩ = some (.string (f 6)) := h4.cell 6
    have q7 : W.cell? ⟨w.heap.size, 7, none⟩ = some (.string (f 7)) := h4.cell 7
    have q8 : W.cell? ⟨w.heap.size, 8, none⟩ = some (.string (f 8)) := h4.cell 8
    gi_wp2
    refine ⟨trivial, ?_⟩
    refine CallsIn.inRound l (callsIn_wide.2 (HSRC.out.mono ?_))
    rintro e w2 ⟨rfl, hb2⟩
    clear q0 q1 q2 q3 q4 q5 q6 q7 q8
    gi_wp2
    refine ⟨trivial, ?_⟩
    refine CallsIn.inRound l (callsIn_wide.2 ((HIX.out _).mono ?_))
    rintro e w3 ⟨rfl, rfl⟩
    have k1 : At w2 (w.heap.size + 1 + 1) 56 (tabA g') := h1.keep hb2
    have k2 : At w2 (w.heap.size + 1) 56 zA := h2.keep hb2
    have k3 : Below w.heap.size w w2 := h3.trans (hb2.mono h3.size)
    have k4 : At w2 w.heap.size 56 (tabA f) := h4.keep hb2
    have kf := k1.frozen j
    have kc : w2.cell? ⟨w.heap.size + 1 + 1, j, none⟩ = some (.string (g' j)) := (k1.cell j).trans hpc
    have kl := k1.lt
    have kF : KeepsFrom W0.heap.size W w2 := keepsFrom_below hb2
    have kS : W.heap.size ≤ w2.heap.size := hb2.size
    clear h1 h2 h3 h4 hb2
    gi_wp2
    refine ⟨trivial, ?_⟩
    refine CallsIn.inRound l (callsIn_wide.2 ((HNM.out _).mono ?_))
    rintro e w3 ⟨rfl, rfl⟩
    gi_wp2
    refine ⟨kF.trans ((KeepsOthers.setCell _ _ _).from _), KeepsIn.zero (by simp [World.size_setCell]; exact kS), ?_, k2.far (by first | (simp; done) | (simp; omega)) _, k3.setCell (by show w.heap.size ≤ w.heap.size + 1 + 1; omega) _, k4.far (by first | (simp; done) | (simp; omega)) _⟩
    rw [HL.out, HBK.out]
    have := k1.set j (.string q)
    rw [show (tabA g').setIfInBounds j (.string q) = tabA (upd g' j q) from HTS.out] at this
    exact this
  · intro D W hD hI hd
    obtain ⟨h1, h2, h3, h4⟩ := hI
    clear hA0 hA1 hA2 hB0 h4
    replace h1 : At W (w.heap.size + 1 + 1) 56 (tabC (bkF f 9)) := h1
    have hl1 := h1.lt
    have hl2 := h2.lt
    have hDD : w.heap.size + 3 ≤ D := by first | omega | simpa [World.size_alloc, Nat.add_assoc] using hD
    generalize hg9 : bkF f 9 = g9 at *
    have HG9 := Lib.hid hg9
    clear hg9
    gi_wp2_with (first | (refine ldIn_row rfl 56 (.tmp 3) rfl (w.heap.size + 1 + 1) 56 (tabC g9) h1 (by rfl) 9 9 Try.underlying56 (by kernel_rfl) ?_) | (refine stIn_row rfl 56 (.tmp 2) (.tmp 20) rfl rfl (w.heap.size + 1) 56 zA (tabC g9) h2 (by rfl) (by rfl) (by kernel_rfl) rfl (tabC_all _) ?_; intro W6 hA6 hg6))
    have d6 : W6.heap[D]? = some (.deferred (some [])) := (hg6.block D (Array.getElem?_eq_some_iff.1 hd).1 (by simp; omega)).trans hd
    have bel : Below w.heap.size w W6 := h3.trans (below_grown hg6 h3.size (fun g hg => by cases hg; omega))
    simp only [Act.put, List.setIfInBounds_toArray, List.set_cons_succ, List.set_cons_zero]
    have fin : LeavesInM Fence.wide 5 Try.prog Try.f88 #[tabX f, .pointer (some ⟨w.heap.size, 0, none⟩), .pointer (some ⟨w.heap.size + 1, 0, none⟩), .pointer (some ⟨w.heap.size + 1 + 1, 0, none⟩), undef, undef, undef, .func (.func 89) #[.int .i64 9] #[], undef, undef, undef, undef, undef, undef, undef, undef, undef, undef, undef, undef, .agg (tabC g9)]
        (fun e w' => e = Ending.returned (tabX (bkF f 9)) ∧ Below w.heap.size w w') [] .returning (W6.putObj D (.deferred none)) := by
      exact ⟨_, results_row1 Try.results88 _ _ (w.heap.size + 1) 56 (tabC g9) (by rfl) ((World.putObj_heap_other (by omega)).trans hA6) 9 9 Try.underlying56 (by kernel_rfl), by rw [HG9.out]; rfl, bel.trans ⟨rfl, rfl, rfl, by simp [World.putObj], fun k hk => World.putObj_heap_other (by omega)⟩⟩
    exact ⟨by simp, .inl ⟨D, _, rfl, run_takeDeferred d6, fin⟩⟩
  · intro _ _ _ _ _ _ hf
    exact hf.elim
end Go.Proofs.Yteadhnpmmpninaa
namespace Go.PM
open Go.RowKit
variable {F : Fence} {n : Nat} {P : Program}
/-- one round: blocks from B on lie as they lay, but for the row r, which may go on in a new block -/
structure RowStep (B : Nat) (r r' : Option Nat) (A A' : World) : Prop where
  size : A.heap.size ≤ A'.heap.size
  same : ∀ k, B ≤ k → k < A.heap.size → some k ≠ r → A'.heap[k]? = A.heap[k]?
  row : r' = r ∨ ∀ g, r' = some g → A.heap.size ≤ g
/-- The function gf, called with mk of a yield, hands the elements of xs to it one behind the other, where each round goes on. The loop's facts know the row that the loop fills; the function may read what the caller keeps (Pr), and keeps blocks of its own. -/
def IterR {α : Type} (Pr : World → Prop) (F : Fence) (n : Nat) (P : Program) (gf : Nat) (mk : Value → Array Value) (encs : α → Array Value) (xs : List α) : Prop :=
  ∀ (l : Nat) (J : Option Nat → List α → World → Prop) (r0 : Option Nat) (W : World),
    (∀ r, OwnFrom W.heap.size (J r)) → (∀ r pre A, J r pre A → Pr A ∧ ∀ g, r = some g → g < A.heap.size) →
    (∀ r pre x A, J r pre A → W.heap.size ≤ A.heap.size → pre ++ [x] <+: xs → YieldAt F (n - 1) P l (encs x) A fun e A' =>
      e = .returned (.bool true) ∧ ∃ r', J r' (pre ++ [x]) A' ∧ RowStep W.heap.size r r' A A') →
    J r0 [] W →
    CallsIn F n P gf (mk (.func (.yield l) #[] #[])) W fun e W' => (∃ v, e = .returned v) ∧ ∃ r, J r xs W'
def postR {α : Type} (B : Nat) (I : Option Nat → List α → World → Prop) (xs : List α) (r : Option Nat) (W : World) : Exit → Act → World → Prop
  | .normal, _, W' => ∃ r', I r' xs W' ∧ RowStep B r r' W W'
  | _, _, _ => False
theorem range_lawR {α : Type} {Pr : World → Prop} {g : Operand} {ps : Array Tmp} {assign body : Code} {Q : Exit → Act → World → Prop} {a : Act} {w : World} (hro : F.round = none) (h1 : 1 ≤ n)
    {gf : Nat} {lf lb : Array Value} (hg : a.eval g = .func (.func gf) lf lb) (hFg : F.fn gf) (eg : ∀ args w, (callFunc gf args).run P w = .ok (.enter gf args) w)
    {encs : α → Array Value} {xs : List α} (hit : IterR Pr F (n - 1) P gf (fun y => lf ++ #[y] ++ lb) encs xs) (hps : ∀ x, (encs x).size = ps.size)
    (I : Option Nat → List α → World → Prop) (r0 : Option Nat) (hPr : ∀ r pre A, I r pre A → Pr A ∧ ∀ g, r = some g → ∃ o : Obj, A.heap[g]? = some o ∧ o.isCells = true)
    (hI : ∀ r, OwnFrom w.heap.size (I r)) (h0 : I r0 [] w) (Ax : α → Act → World → Prop) (hAx : ∀ x a', OwnFrom w.heap.size (fun (_ : Unit) W => Ax x a' W))
    (hassign : ∀ (l : Nat) (r : Option Nat) (pre : List α) (x : α) (W : World) (K : Act → World → Prop), I r pre W → pre ++ [x] <+: xs → w.heap.size + 2 ≤ W.heap.size → (∀ a' W', Below W.heap.size W W' → I r pre W' → Ax x a' W' → K a' W') →
      assign.wpIn (F.inRound l) (n - 1 - 1) P (Exit.then K (fun _ _ _ => False)) { tmps := (ps.zip (encs x)).foldl (fun t (p, v) => t.setIfInBounds p v) a.tmps, defers := [] } W)
    (hbody : ∀ (l : Nat) (r : Option Nat) (pre : List α) (x : α) (a' : Act) (W : World), I r pre W → Ax x a' W → pre ++ [x] <+: xs → w.heap.size + 2 ≤ W.heap.size → body.wpIn (F.inRound l) (n - 1 - 1) P (postR w.heap.size I (pre ++ [x]) r W) a' W)
    (hdone : ∀ (D : Nat) (r : Option Nat) (W : World), w.heap.size ≤ D → I r xs W → W.heap[D]? = some (.deferred (some [])) → Q .normal { a with defers := { target := .collected D, args := #[] } :: a.defers } W) :
    (Code.rangeFunc g ps assign body).wpIn F n P Q a w := by
  refine wpIn_rangeFunc fun fn hfn => ?_
  rw [hro]
  have key : ∃ rc : LoopState → Option Code → Loop, rc = fun s j => { state := s, pending := j, fn, tmps := a.tmps, params := ps, assign, body, defers := w.heap.size } := ⟨_, rfl⟩
  obtain ⟨rc, hrc⟩ := key
  let V := (w.alloc (.deferred (some []))).alloc (.loop (rc .ready none))
  let Bk : LoopState → Option Code → World → Prop := fun s j A => A.heap[w.heap.size + 1]? = some (.loop (rc s j)) ∧ A.heap[w.heap.size]? = some (.deferred (some []))
  have bkput : ∀ {s j s' j' A}, Bk s j A → Bk s' j' (A.putObj (w.heap.size + 1) (.loop (rc s' j'))) := fun h =>
    ⟨World.putObj_heap_same (Array.getElem?_eq_some_iff.1 h.1).1, (World.putObj_heap_other (by omega)).trans h.2⟩
  have hVs : V.heap.size = w.heap.size + 2 := by simp [V, World.size_alloc]
  have bknew : ∀ {s j A A' row}, Bk s j A → A.grownBy A' row → (∀ r, row = some r → V.heap.size ≤ r ∧ ∃ o : Obj, A.heap[r]? = some o ∧ o.isCells = false) → Bk s j A' := fun h hg' hr =>
    ⟨(hg'.block _ (Array.getElem?_eq_some_iff.1 h.1).1 (fun e => by have := (hr _ e.symm).1; omega)).trans h.1, (hg'.block _ (Array.getElem?_eq_some_iff.1 h.2).1 (fun e => by have := (hr _ e.symm).1; omega)).trans h.2⟩
  have hV : Bk .ready none V := by
    refine ⟨?_, ?_⟩
    · have := World.alloc_heap_new (w.alloc (.deferred (some []))) (.loop (rc .ready none)); rwa [World.size_alloc] at this
    · exact (Below.heap_alloc _ _ _ (by simp)).trans (World.alloc_heap_new w _)
  have hIV : I r0 [] V := (hI r0).alloc _ ((hI r0).alloc _ h0)
  refine ⟨w.heap.size + 1, [{ target := .collected w.heap.size, args := #[] }], V, { target := .fn (.func gf) lb, args := lf ++ #[.func (.yield (w.heap.size + 1)) #[] #[]] }, V, gf,
    lf ++ #[.func (.yield (w.heap.size + 1)) #[] #[]] ++ lb, V, ?_, ?_, ?_, ?_, fun _ => h1, ?_⟩
  · have := run_enterLoop_outer (P := P) (w := w) fn a.tmps ps assign body
    rw [this]; simp only [V, hrc]
  · simp only [resolve, hg]
    simp [go_sem]
  · intro f' hf'
    simp [Target.leads] at hf'
    subst hf'; exact hFg
  · simp [invoke, go_sem, eg]
  refine (hit (w.heap.size + 1) (fun r pre A => I r pre A ∧ Bk .ready none A) r0 V
    (fun r pre A A' row h hg' hr => ⟨hI r pre A A' row h.1 hg' (fun q e => ⟨by have := (hr q e).1; omega, (hr q e).2⟩), bknew h.2 hg' hr⟩)
    (fun r pre A h => ⟨(hPr r pre A h.1).1, fun g e => by obtain ⟨o, ho, _⟩ := (hPr r pre A h.1).2 g e; exact (Array.getElem?_eq_some_iff.1 ho).1⟩) ?_ ⟨hIV, hV⟩).mono ?_
  · rintro r pre x A ⟨hi, hb⟩ hsz hpx
    have hy := run_yield (P := P) (args := encs x) hb.1 (by rw [hrc]; exact hps x)
    rw [hrc] at hy
    refine ⟨fn, _, assign, body, hy, roundIn_of_wpIn hfn (hassign _ r pre x A _ hi hpx (by omega) ?_)⟩
    intro a' Wa hbl hia hax
    have hlt := (Array.getElem?_eq_some_iff.1 hb.1).1
    replace hb : Bk .ready none Wa := ⟨(hbl.block _ hlt).trans hb.1, (hbl.block _ (by omega)).trans hb.2⟩
    clear hy hi
    refine ⟨_, run_beginRound hb.1 (by rw [hrc]), ?_⟩
    have hszA : A.heap.size ≤ Wa.heap.size := hbl.size
    have hb2 : Bk .busy none (Wa.putObj (w.heap.size + 1) (.loop (rc .busy none))) := bkput hb
    have e2 : ({ rc .ready none with state := .busy } : Loop) = rc .busy none := by rw [hrc]
    rw [e2]
    have hib := (hI r).putObj (.loop (rc .busy none)) hia (by omega) hb.1 rfl
    have hrr := (hPr r pre _ hib).2
    refine wpIn_mono (hbody _ r pre x a' _ hib ((hAx x a').putObj (s := ()) _ hax (by omega) hb.1 rfl) hpx (by simp [World.putObj]; omega)) ?_
    rintro e a3 C hp
    cases e with
    | normal =>
      obtain ⟨r', hi3, hst⟩ := hp
      have hne : ∀ k, w.heap.size ≤ k → k < w.heap.size + 2 → some k ≠ r := fun k hk1 hk2 e => by
        obtain ⟨o, ho, hoc⟩ := hrr k e.symm
        have : k = w.heap.size ∨ k = w.heap.size + 1 := by omega
        rcases this with rfl | rfl
        · rw [hb2.2] at ho; cases ho; cases hoc
        · rw [hb2.1] at ho; cases ho; cases hoc
      have s0 : (Wa.putObj (w.heap.size + 1) (.loop (rc .busy none))).heap.size = Wa.heap.size := by simp [World.putObj]
      have hb3 : Bk .busy none C := ⟨(hst.same _ (by omega) (by omega) (hne _ (by omega) (by omega))).trans hb2.1, (hst.same _ (by omega) (by omega) (hne _ (by omega) (by omega))).trans hb2.2⟩
      have h3 : (Instr.endRound (w.heap.size + 1) none).run P C = .ok (.bool true) (C.putObj (w.heap.size + 1) (.loop (rc .ready none))) := by
        rw [run_endRound (P := P) none hb3.1]; rw [hrc]; rfl
      refine ⟨_, _, h3, rfl, r', ⟨(hI r').putObj _ hi3 (by omega) hb3.1 rfl, bkput hb3⟩, ?_, ?_, ?_⟩
      · have := hst.size; simp [World.putObj] at this ⊢; omega
      · intro k hk1 hk2 hk3
        rw [World.putObj_heap_other (by omega), hst.same k (by omega) (by omega) hk3, World.putObj_heap_other (by omega)]
        exact hbl.block k hk2
      · rcases hst.row with h | h
        · exact .inl h
        · exact .inr fun g e => by have := h g e; omega
    | ret => exact hp.elim
    | exit id => exact hp.elim
    | goto t => exact hp.elim
    | panic ch => exact hp.elim
    | outgrown => exact hp.elim
  · rintro e C ⟨⟨v, rfl⟩, r, hi, hb⟩
    have h3 := run_endLoop (P := P) hb.1 (by rw [hrc]; simp)
    exact ⟨none, _, by rw [h3, hrc], hdone _ r _ (Nat.le_refl _) ((hI r).putObj _ hi (by omega) hb.1 rfl) ((World.putObj_heap_other (by omega)).trans hb.2)⟩
end Go.PM
namespace Go.PM
open Go.RowKit
/-- a move as a step -/
def stpM (m : Mv) : St := (0, m.1, m.2)
def stL (ms : List Mv) : List St := ms.map stpM
theorem three_new (w : World) (a b c : Value) (t : TypeId) : ∀ j u, [a, b, c][j]? = some u → (w.alloc (.cells #[a, b, c] t)).cell? ((⟨w.heap.size, 0, none⟩ : Addr).add j) = some u := by
  intro j u hj
  match j, hj with
  | 0, hj => simp at hj; subst hj; simp [Addr.add]
  | 1, hj => simp at hj; subst hj; simp [Addr.add]
  | 2, hj => simp at hj; subst hj; simp [Addr.add]
theorem wpListIn_lies {F : Fence} {k : Nat} {P : Program} {w : World} {ops : Array Oper} {rest : List Oper} {o : Oper} {a : Act} {Q : Exit → Act → World → Prop} (hgd : o.guard = none) (s x : Operand) (t : TypeId)
    (ho : o.op = .call { callee := .builtin .append, args := #[s, x], argTypes := #[t, t] })
    (base : Nat) (e : TypeId) (i : TypeInfo) (z : Value) (size bytes : Nat) (ht : P.underlying t = some (.slice e)) (hi : P.info? e = some i) (hz : i.zero = some z)
    (hsize : i.size = size) (hby : i.bytes = bytes) (hzs : z.cells.size = size) (hsz : 0 < size)
    (v : Value) (n : Nat) (xs : List Value) (hs : a.eval s = v) (hown : w.ownsRow base e size v n xs)
    (ad : Addr) (m c : Nat) (news : List Value) (hx : a.eval x = .slice (some ad) m c) (hl : news.length = m * size) (hnews : ∀ j u, news[j]? = some u → w.cell? (ad.add j) = some u) (h1 : ∀ u ∈ news, u.oneCell' = true)
    (hm : 0 < m) (h63 : n + m ≤ maxLen) (hbytes : (n + m) * bytes ≤ 140737488355328) (hbase : base ≤ w.heap.size)
    (h : ∀ g cap w', w'.ownsRow base e size (.slice (some ⟨g, 0, none⟩) (n + m) cap) (n + m) (xs ++ news) → w.grownBy w' v.ownBlock → (v.ownBlock = some g ∨ g = w.heap.size) → g < w'.heap.size → wpListIn F k P ops Q rest (a.put o.dst (.slice (some ⟨g, 0, none⟩) (n + m) cap)) w') : wpListIn F k P ops Q (o :: rest) a w := by
  refine wpListIn_plain hgd fun K hK' => ?_
  obtain ⟨g, cap, w', hr, h2, h3, h4, h5⟩ := run_append_lies (P := P) w t o.type base e i z size bytes ht hi hz hsize hby hzs hsz v n xs hown ad m c news hl hnews h1 hm h63 hbytes hbase _ rfl
  unfold Oper.wpIn
  refine ⟨?_, ?_⟩
  · simp [Oper.about, ho, resolve, Target.leads, Sem.run_pure]
  · rw [Oper.semAt_plain F _ _ (by rw [ho]; intro c hc'; cases hc')]
    simp [execOp, ho, resolve, invoke, builtin, hs, hx, hr, Result.andThen]
    exact hK' _ _ (h g cap w' h2 h3 h4 h5)
/-- a row of one's own, and where it lies -/
def RowAt (A : World) (bx : Nat) (bt base : Nat) (e : TypeId) (size : Nat) (r : Option Nat) (n : Nat) (cs : List Value) (o : Value) : Prop :=
  At A bx bt #[o] ∧ A.ownsRow base e size o n cs ∧ o.ownBlock = r
theorem RowAt.turn {A A' : World} {bx bt base : Nat} {e : TypeId} {size : Nat} {r : Option Nat} {n : Nat} {cs : List Value} {o : Value} {row : Option Nat} (h : RowAt A bx bt base e size r n cs o) (hg : A.grownBy A' row) (hr : ∀ q, row = some q → ∃ ob : Obj, A.heap[q]? = some ob ∧ ob.isCells = false) : RowAt A' bx bt base e size r n cs o :=
  ⟨h.1.turn hg hr, own_turn h.2.1 hg hr, h.2.2⟩
theorem RowAt.lives {A : World} {bx bt base : Nat} {e : TypeId} {size : Nat} {r : Option Nat} {n : Nat} {cs : List Value} {o : Value} (h : RowAt A bx bt base e size r n cs o) : ∀ g, r = some g → ∃ ob : Obj, A.heap[g]? = some ob ∧ ob.isCells = true := by
  intro g hg
  obtain ⟨_, h2, h3⟩ := h
  rcases h2.2 with ⟨rfl, _⟩ | ⟨g', cap, cur, rfl, _, hh, _⟩
  · rw [hg] at h3; cases h3
  · rw [hg] at h3
    cases h3
    exact ⟨_, hh, rfl⟩
end Go.PM
namespace Go.Proofs.Yteadhnpmmpninaa
open Go.RowKit Go.PM
attribute [local go_sem] Oper.semAt_some

end Go.Proofs.Yteadhnpmmpninaa
namespace Go.PM
open Go.RowKit
def sinkB1 (md : Region.Mode) (ops : Array Oper) (n : Nat) : Bool :=
  (List.range n).all fun i => decide (i = 0) || (List.range (n + 1)).any fun j => decide (i < j) && Region.waitsFor md ops j i
section
variable {P : Program} {ops : Array Oper} {md : Region.Mode}
theorem tail_waits1 {n : Nat} {listed : Array Bool} (hs : sinkB1 md ops n = true) (hc : Region.chainB md ops n = true) (hn : n < ops.size) (inv : HeadInv md ops n listed) :
    ∀ (d i : Nat), n - i = d → 0 < i → i < n → listed.getD i true = false → ∀ t, n ≤ t → t ∉ Region.ready md ops listed := by
  intro d
  induction d using Nat.strongRecOn with
  | _ d ih =>
    intro i hd hi0 hi hun t ht hr
    obtain ⟨_, ot, hot, hall⟩ := mem_ready.1 hr
    have htlt : t < ops.size := (Array.getElem?_eq_some_iff.1 hot).1
    by_cases htn : t = n
    · subst htn
      have h1 := List.all_eq_true.1 hs i (List.mem_range.2 hi)
      rw [Bool.or_eq_true, decide_eq_true_eq] at h1
      have h1 := h1.resolve_left (by omega)
      obtain ⟨j, hj, hj2⟩ := List.any_eq_true.1 h1
      simp only [Bool.and_eq_true, decide_eq_true_eq] at hj2
      obtain ⟨oj, hoj, e, he, hb, hon⟩ := Region.waitsFor_spec hj2.2
      have hjle : j ≤ t := by have := List.mem_range.1 hj; omega
      by_cases hjt : j = t
      · subst hjt
        have : oj = ot := Option.some.inj (hoj.symm.trans hot)
        subst this
        have h2 := hall e he hb
        rw [hon, getD_both hun] at h2
        cases h2
      · cases hl : listed.getD j false with
        | true =>
          have h2 := inv.closed j oj hoj hl e he hb
          rw [hon, getD_both hun] at h2
          cases h2
        | false =>
          have hjs : j < listed.size := by rw [inv.size]; omega
          exact ih (t - j) (by omega) j rfl (by omega) (by omega) (getD_in hjs hl) t (Nat.le_refl _) hr
    · have h1 := List.all_eq_true.1 hc t (List.mem_range.2 htlt)
      simp only [Bool.or_eq_true, decide_eq_true_eq] at h1
      rcases h1 with h1 | h1
      · omega
      · obtain ⟨o', ho', e, he, hb, hon⟩ := Region.waitsFor_spec h1
        have : o' = ot := Option.some.inj (ho'.symm.trans hot)
        subst this
        have h2 := hall e he hb
        rw [hon, getD_both (inv.tail (t - 1) (by omega) (by omega))] at h2
        cases h2
end
section
variable {F : Fence} {m : Nat} {P : Program} {ops : Array Oper} {md : Region.Mode} {C D : World → Prop} {Q : Exit → Act → World → Prop}
theorem wpAnyLQ1_first {n i : Nat} {oi : Oper} {v : Value} {L : Array Bool → Act → Prop} (hi : ops[i]? = some oi) (hsel : ∀ (j : Nat) (o : Oper) cs b, ops[j]? = some o → o.op ≠ .select cs b)
    (hi0 : 0 < i) (hs : sinkB1 md ops n = true) (hc : Region.chainB md ops n = true) (hn : n < ops.size) (hin : i < n)
    (hdone : ∀ listed a, L listed a → ∀ j ∈ Region.ready md ops listed, n ≤ j) :
    ∀ (f : Nat) (listed : Array Bool) (a : Act), HeadInv md ops n listed →
      (∀ j oj, ops[j]? = some oj → j ≠ i → listed.getD j true = false → (∀ e ∈ oj.after, Region.binds md e = true → e.on ≠ i) → oi.apart ops oj = true) →
      i ∈ Region.ready md ops listed → YieldsQuiet F m P ops C oi v a →
      wpAnyLQIn F m P md ops C n L f (listed.setIfInBounds i true) (a.put oi.dst v) → wpAnyLQIn F m P md ops C n L (f + 1) listed a := by
  intro f
  induction f with
  | zero =>
    intro listed a inv _ hr hy H
    have hun := (mem_ready.1 hr).1
    refine ⟨fun h => (by rw [h] at hr; cases hr), fun j hj => ?_⟩
    have hjn : j < n := by
      rcases Nat.lt_or_ge j n with h | h
      · exact h
      · exact absurd hj (tail_waits1 hs hc hn inv _ i rfl hi0 hin hun j h)
    refine ⟨hjn, ?_⟩
    by_cases hji : j = i
    · subst hji; exact hy.qOpIn hi H
    · have := hdone _ _ H j (ready_mono hj hji)
      omega
  | succ f ih =>
    intro listed a inv hfree hr hy H
    have hun := (mem_ready.1 hr).1
    refine ⟨fun h => (by rw [h] at hr; cases hr), fun j hj => ?_⟩
    have hjn : j < n := by
      rcases Nat.lt_or_ge j n with h | h
      · exact h
      · exact absurd hj (tail_waits1 hs hc hn inv _ i rfl hi0 hin hun j h)
    refine ⟨hjn, ?_⟩
    by_cases hji : j = i
    · subst hji; exact hy.qOpIn hi H
    · have h1 := (H.2 j (ready_mono hj hji)).2
      obtain ⟨hjun, oj, hoj, hall⟩ := mem_ready.1 hj
      have hnot : ∀ e ∈ oj.after, Region.binds md e = true → e.on ≠ i := fun e he hb heq => by
        have h1 := hall e he hb
        rw [heq, getD_both hun] at h1
        cases h1
      have h2 := qOpIn_put hoj (hfree j oj hoj hji hjun hnot) (fun cs b => hsel i oi cs b hi) (fun cs b => hsel j oj cs b hoj) hy h1
      have hfree' : ∀ k ok, ops[k]? = some ok → k ≠ i → (listed.setIfInBounds j true).getD k true = false →
          (∀ e ∈ ok.after, Region.binds md e = true → e.on ≠ i) → oi.apart ops ok = true := fun k ok hk hki hun hno => by
        refine hfree k ok hk hki ?_ hno
        by_cases hjk : j = k
        · subst hjk; exact hjun
        · rw [getD_set_ne true hjk] at hun; exact hun
      refine qOpIn_mono (fun a' h3 => ih (listed.setIfInBounds j true) a' (inv.set hj hjn) hfree' (ready_mono hr (Ne.symm hji)) h3.1 ?_) h2
      rw [Array.setIfInBounds_comm _ _ hji]
      exact h3.2

theorem wpAnyLQ1_lex {n g : Nat} {Lq : Act → Prop} (hsel : Region.noSelect ops = true) (hs : sinkB1 md ops n = true) (hc : Region.chainB md ops n = true) (hn : n < ops.size) :
    ∀ (l : List Oper) (k : Nat) (listed : Array Bool) (a : Act), 0 < k → (∀ j, j < l.length → l[j]? = ops[k + j]?) → k + l.length = n → HeadInv md ops n listed →
    Region.lexHead md ops g l.length k listed = true → wpQuietIn F m P ops C Lq l a →
    wpAnyLQIn F m P md ops C n (fun listed' a' => Region.seqB md ops g n listed' = true ∧ Lq a') l.length listed a
  | [], k, listed, a, _, _, hk, _, hB, h => by
    have : k = n := by simpa using hk
    subst this
    exact ⟨by simpa [Region.lexHead] using hB, h⟩
  | o :: l, k, listed, a, hk0, hl, hk, inv, hB, h => by
    have h0 : ops[k]? = some o := by simpa using (hl 0 (by simp)).symm
    simp only [List.length_cons, Region.lexHead, Bool.and_eq_true] at hB
    obtain ⟨⟨hr, hf⟩, hB'⟩ := hB
    have hkn : k < n := by simp only [List.length_cons] at hk; omega
    have hr' : k ∈ Region.ready md ops listed := by simpa using hr
    have hst : qOpIn F m P ops C k (wpQuietIn F m P ops C Lq l) a := by unfold qOpIn; simp only [h0]; exact h
    obtain ⟨v, hy, hK⟩ := yieldsQuiet_of_qOpIn h0 hst
    exact wpAnyLQ1_first h0 (Region.noSelect_spec hsel) hk0 hs hc hn hkn (fun listed' a' hL => seqB_ready hL.1) l.length listed a inv (Region.free_spec h0 hf) hr' hy
      (wpAnyLQ1_lex hsel hs hc hn l (k + 1) _ _ (by omega) (fun j hj => by have := hl (j + 1) (by simp; omega); simpa [Nat.add_assoc, Nat.add_comm 1 j] using this) (by simp only [List.length_cons] at hk; omega) (inv.set hr' hkn) hB' hK)


/-- the same walk, a fact kept till an operation comes that waits for number 0 -/
def wpAnyT (F : Fence) (m : Nat) (P : Program) (md : Region.Mode) (ops : Array Oper) (D : World → Prop) (Q : Exit → Act → World → Prop) : Nat → Array Bool → Act → World → Prop
  | 0, listed, a, w => D w ∧ Region.ready md ops listed = [] ∧ Q .normal a w
  | f + 1, listed, a, w => D w ∧ (Region.ready md ops listed = [] → Q .normal a w) ∧ ∀ j ∈ Region.ready md ops listed,
      wpOpIn F m P ops Q j (fun a' w' => if Region.waitsFor md ops j 0 then wpAnyIn F m P md ops Q f (listed.setIfInBounds j true) a' w' else wpAnyT F m P md ops D Q f (listed.setIfInBounds j true) a' w') a w
theorem wpAnyT_any : ∀ (f : Nat) (listed : Array Bool) (a : Act) (w : World), wpAnyT F m P md ops D Q f listed a w → wpAnyIn F m P md ops Q f listed a w
  | 0, _, _, _, h => h.2
  | f + 1, listed, a, w, h => ⟨h.2.1, fun j hj => wpOpIn_mono (fun a' w' h' => by
      split at h'
      · exact h'
      · exact wpAnyT_any f _ a' w' h') (h.2.2 j hj)⟩
theorem wpAnyT_world {f : Nat} {listed : Array Bool} {a : Act} {w : World} (h : wpAnyT F m P md ops D Q f listed a w) : D w := by
  cases f <;> exact h.1
def YieldsD (P : Program) (ops : Array Oper) (D : World → Prop) (o : Oper) (v : Value) (a : Act) : Prop :=
  Region.wanted o (yielded ops a.tmps) = true ∧ (∀ w, D w → (execOp a.eval o).run P w = .ok (.value v) w) ∧ ∀ w, o.about P w a.eval = none
theorem YieldsD.of_same {o : Oper} {v : Value} {a a' : Act} (hy : YieldsD P ops D o v a) (he : execOp a'.eval o = execOp a.eval o) (hw : Region.wanted o (yielded ops a'.tmps) = Region.wanted o (yielded ops a.tmps)) (hb : ∀ w, o.about P w a'.eval = o.about P w a.eval) : YieldsD P ops D o v a' := by
  unfold YieldsD at *
  rw [he, hw]
  exact ⟨hy.1, hy.2.1, fun w => by rw [hb w]; exact hy.2.2 w⟩
theorem YieldsD.op {i : Nat} {o : Oper} {v : Value} {a : Act} (hro : F.round = none) (hi : ops[i]? = some o) (hy : YieldsD P ops D o v a) {K : Act → World → Prop} {w : World} (hw : D w) (h : K (a.put o.dst v) w) : wpOpIn F m P ops Q i K a w := by
  unfold wpOpIn
  simp only [hi, hy.1, if_true]
  unfold Oper.wpIn
  rw [hro, Oper.semAt_none, hy.2.1 w hw]
  exact ⟨(fun f hf => by rw [hy.2.2 w] at hf; cases hf), h⟩
theorem opD_put {j : Nat} {oi oj : Oper} {v : Value} (hro : F.round = none) (hj : ops[j]? = some oj) (hap : oi.apart ops oj = true)
    (hsi : ∀ cs b, oi.op ≠ .select cs b) (hsj : ∀ cs b, oj.op ≠ .select cs b)
    (hQ : ∀ c a w, Q (.panic c) (a.put oi.dst v) w → Q (.panic c) a w) {K : Act → World → Prop} {a : Act} {w : World}
    (hy : YieldsD P ops D oi v a) (h : wpOpIn F m P ops Q j K (a.put oi.dst v) w) :
    wpOpIn F m P ops Q j (fun a' w' => YieldsD P ops D oi v a' ∧ K (a'.put oi.dst v) w') a w := by
  obtain ⟨h1, h2, h3⟩ := Oper.apart_spec hap
  have keep : ∀ (a : Act), YieldsD P ops D oi v a → ∀ u, YieldsD P ops D oi v (a.put oj.dst u) := fun a hy u =>
    hy.of_same (execOp_put oi hsi a oj.dst u h3) (wanted_put oi a oj.dst u h3) (fun w => about_put oi w a oj.dst u h3)
  have keepD : ∀ d, YieldsD P ops D oi v { a with defers := d :: a.defers } := fun d => hy.of_same rfl rfl (fun _ => rfl)
  unfold wpOpIn at *
  simp only [hj] at *
  rw [wanted_put oj a oi.dst v h1, about_put oj w a oi.dst v h1] at h
  split
  · rename_i hw
    simp only [hw, if_true] at h
    unfold Oper.wpIn at *
    rw [about_put oj w a oi.dst v h1] at h
    refine ⟨h.1, ?_⟩
    have h := h.2
    rw [hro, Oper.semAt_none, execOp_put oj hsj a oi.dst v h1] at h
    rw [hro, Oper.semAt_none]
    generalize (execOp a.eval oj).run P w = r at *
    cases r with
    | ok x w' =>
      cases x <;> simp only [Oper.uponIn] at h ⊢
      case value u => exact ⟨keep a hy u, by rw [← Act.put_comm a v u h2]; exact h⟩
      case skip => exact ⟨keep a hy _, by rw [← Act.put_comm a v undef h2]; exact h⟩
      case defer d =>
        refine ⟨keep _ (keepD d) _, ?_⟩
        rw [← Act.put_comm _ v undef h2, ← Act.put_defers]
        exact h
      case enter f args =>
        refine ⟨h.1, CallsIn.mono h.2 fun e w'' he => ?_⟩
        cases e with
        | returned u => exact ⟨keep a hy u, by rw [← Act.put_comm a v u h2]; exact he⟩
        | panicked c => exact hQ _ _ _ he
        | outgrown => exact he
      case row row args => exact ⟨h.1, RowsIn.mono h.2 fun u w'' he => ⟨keep a hy u, by rw [← Act.put_comm a v u h2]; exact he⟩⟩
      case round l f tmps assign body =>
        refine ⟨h.1, RoundIn.mono h.2 fun e w'' he => ?_⟩
        cases e with
        | returned u => exact ⟨keep a hy u, by rw [← Act.put_comm a v u h2]; exact he⟩
        | panicked c => exact hQ _ _ _ he
        | outgrown => exact he
    | halt x w' =>
      cases x <;> simp only [Oper.uponIn] at h ⊢
      case panic u => exact hQ _ _ _ h
  · rename_i hw
    simp only [hw] at h
    exact ⟨h.1, keep a hy _, by rw [← Act.put_comm a v undef h2]; exact h.2⟩
theorem late_first {oi : Oper} {v : Value} (hro : F.round = none) (hi : ops[0]? = some oi) (hsel : ∀ (j : Nat) (o : Oper) cs b, ops[j]? = some o → o.op ≠ .select cs b)
    (hQ : ∀ c a w, Q (.panic c) (a.put oi.dst v) w → Q (.panic c) a w) :
    ∀ (fuel : Nat) (listed : Array Bool) (a : Act) (w : World),
      (∀ j oj, ops[j]? = some oj → j ≠ 0 → listed.getD j true = false → (∀ e ∈ oj.after, Region.binds md e = true → e.on ≠ 0) → oi.apart ops oj = true) →
      0 ∈ Region.ready md ops listed → YieldsD P ops D oi v a →
      wpAnyT F m P md ops D Q fuel (listed.setIfInBounds 0 true) (a.put oi.dst v) w → wpAnyIn F m P md ops Q (fuel + 1) listed a w := by
  intro fuel
  induction fuel with
  | zero =>
    intro listed a w _ hr hy H
    refine ⟨fun h => (by rw [h] at hr; cases hr), fun j hj => ?_⟩
    by_cases hji : j = 0
    · subst hji; exact hy.op hro hi H.1 H.2
    · have := ready_mono hj hji
      rw [H.2.1] at this
      cases this
  | succ fuel ih =>
    intro listed a w hfree hr hy H
    refine ⟨fun h => (by rw [h] at hr; cases hr), fun j hj => ?_⟩
    by_cases hji : j = 0
    · subst hji; exact hy.op hro hi H.1 (wpAnyT_any _ _ _ _ H)
    · have h1 := H.2.2 j (ready_mono hj hji)
      obtain ⟨hjun, oj, hoj, hall⟩ := mem_ready.1 hj
      have hun0 := (mem_ready.1 hr).1
      have hnot : ∀ e ∈ oj.after, Region.binds md e = true → e.on ≠ 0 := fun e he hb heq => by
        have h1 := hall e he hb
        rw [heq, getD_both hun0] at h1
        cases h1
      have hnw : Region.waitsFor md ops j 0 = false := by
        cases hwf : Region.waitsFor md ops j 0 with
        | false => rfl
        | true =>
          obtain ⟨o', ho', e, he, hb, hon⟩ := Region.waitsFor_spec hwf
          have : o' = oj := Option.some.inj (ho'.symm.trans hoj)
          subst this
          exact absurd hon (hnot e he hb)
      have h2 := opD_put hro hoj (hfree j oj hoj hji hjun hnot) (fun cs b => hsel 0 oi cs b hi) (fun cs b => hsel j oj cs b hoj) hQ hy h1
      have hfree' : ∀ k ok, ops[k]? = some ok → k ≠ 0 → (listed.setIfInBounds j true).getD k true = false →
          (∀ e ∈ ok.after, Region.binds md e = true → e.on ≠ 0) → oi.apart ops ok = true := fun k ok hk hki hun hno => by
        refine hfree k ok hk hki ?_ hno
        by_cases hjk : j = k
        · subst hjk; exact hjun
        · rw [getD_set_ne true hjk] at hun; exact hun
      refine wpOpIn_mono (fun a' w' h3 => ih (listed.setIfInBounds j true) a' w' hfree' (ready_mono hr (Ne.symm hji)) h3.1 ?_) h2
      have h4 := h3.2
      rw [hnw, if_neg (by decide)] at h4
      rw [Array.setIfInBounds_comm _ _ hji]
      exact h4
theorem wpAnyT_of_headQ {n g : Nat} {L : Array Bool → Act → Prop} (hro : F.round = none) (hCD : ∀ w, C w → D w) (hL : ∀ listed a w, C w → L listed a → wpAnyT F m P md ops D Q g listed a w) :
    ∀ (f : Nat) (listed : Array Bool) (a : Act) (w : World), C w → wpAnyLQIn F m P md ops C n L f listed a → wpAnyT F m P md ops D Q (f + g) listed a w
  | 0, listed, a, w, hw, h => by rw [Nat.zero_add]; exact hL _ _ _ hw h
  | f + 1, listed, a, w, hw, h => by
    rw [show f + 1 + g = (f + g) + 1 by omega]
    refine ⟨hCD w hw, fun h0 => absurd h0 h.1, fun i hi => wpOpIn_of_qOpIn hro hw (fun a' w' hw' h' => ?_) (h.2 i hi).2⟩
    have := wpAnyT_of_headQ hro hCD hL f _ a' w' hw' h'
    split
    · exact wpAnyT_any _ _ _ _ this
    · exact this
/-- what is asked of the region's form -/
def lateB (ops : Array Oper) (n : Nat) : Bool :=
  Region.noSelect ops && decide (0 < n) && decide (n + 1 < ops.size) && sinkB1 .any ops n && Region.chainB .any ops n && Region.lexHead .any ops (ops.size - n) (n - 1) 1 ((Array.replicate ops.size false).setIfInBounds 0 true) &&
    Region.waitsFor .any ops (n + 1) 0 && Region.free .any ops (Array.replicate ops.size false) 0 && (Region.ready .any ops (Array.replicate ops.size false)).contains 0
/-- A region that draws its order, whose first operation reads what only the last ones turn: it first, n - 1 quiet ones, one that may make memory, the others one behind the other. -/
theorem any_late {a : Act} {w : World} {l : List Oper} (n : Nat) (hro : F.round = none) (hB : lateB l.toArray n = true) (o0 on : Oper) (h0 : l[0]? = some o0) (hon : l[n]? = some on) (hgn : on.guard = none) (v0 : Value)
    (hQ : ∀ c a w, Q (.panic c) (a.put o0.dst v0) w → Q (.panic c) a w) (hy : YieldsD P l.toArray D o0 v0 a) (hCD : ∀ w, C w → D w) (hC : C w)
    (h : wpQuietIn F m P l.toArray C (fun a' => ∀ w', C w' → ∀ K : Act → World → Prop, (∀ a'' w'', D w'' → wpListIn F m P l.toArray Q (l.drop (n + 1)) a'' w'' → K a'' w'') → Oper.wpIn F m P on a' w' K Q) ((l.drop 1).take (n - 1)) (a.put o0.dst v0)) :
    wpAnyIn F m P .any l.toArray Q l.toArray.size (Array.replicate l.toArray.size false) a w := by
  simp only [lateB, Bool.and_eq_true, decide_eq_true_eq] at hB
  obtain ⟨⟨⟨⟨⟨⟨⟨⟨hsel, hn0⟩, hn⟩, hs⟩, hc⟩, hlex⟩, hw0⟩, hf0⟩, hr0⟩ := hB
  have hn' : n + 1 < l.length := by simpa using hn
  have hr0' : 0 ∈ Region.ready .any l.toArray (Array.replicate l.toArray.size false) := by simpa using hr0
  have h0a : l.toArray[0]? = some o0 := by simpa using h0
  have inv0 : HeadInv .any l.toArray n (Array.replicate l.toArray.size false) :=
    ⟨by simp, fun j oj _ hl => (by rw [getD_replicate_false] at hl; cases hl), fun t _ ht => getD_in (by simpa using ht) (getD_replicate_false _ _)⟩
  have inv1 := inv0.set hr0' hn0
  have htl : ((l.drop 1).take (n - 1)).length = n - 1 := by simp; omega
  have H := wpAnyLQ1_lex (md := .any) (g := l.toArray.size - n) hsel hs hc (by omega) ((l.drop 1).take (n - 1)) 1 _ (a.put o0.dst v0) (by decide) (fun j hj => by
    have hj' : j < n - 1 := by rw [htl] at hj; exact hj
    simp [hj', Nat.add_comm]) (by rw [htl]; omega) inv1 (by rw [htl]; exact hlex) h
  have T := wpAnyT_of_headQ (D := D) (Q := Q) (g := l.toArray.size - n) hro hCD (fun listed a' w' hw' hL => by
    obtain ⟨hseq, hLq⟩ := hL
    obtain ⟨g, hg⟩ : ∃ g, l.toArray.size - n = g + 1 + 1 := ⟨l.toArray.size - n - 2, by simp; omega⟩
    rw [hg] at hseq ⊢
    simp only [Region.seqB, Bool.and_eq_true, decide_eq_true_eq] at hseq
    refine ⟨hCD w' hw', fun h1 => (by rw [hseq.1] at h1; cases h1), fun i hi => ?_⟩
    rw [hseq.1] at hi
    have hin : i = n := by simpa using hi
    subst hin
    have hona : l.toArray[i]? = some on := by simpa using hon
    unfold wpOpIn
    simp only [hona]
    have hwn : Region.wanted on (yielded l.toArray a'.tmps) = true := by simp [Region.wanted, hgn]
    rw [if_pos hwn]
    refine hLq w' hw' _ (fun a'' w'' hD hlist => ?_)
    have hdl : (l.drop (i + 1)).length = g + 1 := by simp at hg ⊢; omega
    have hany := wpAnyIn_of_seq' (md := .any) (Q' := Q) (l.drop (i + 1)) (i + 1) (listed.setIfInBounds i true) a'' w'' (fun j => by simp [List.getElem?_drop]) (by rw [hdl]; simp only [Region.seqB, Bool.and_eq_true, decide_eq_true_eq]; exact hseq.2) hlist
    rw [hdl] at hany
    split
    · exact hany
    · refine ⟨hD, hany.1, fun j hj => ?_⟩
      rw [hseq.2.1] at hj
      have hjn : j = i + 1 := by simpa using hj
      subst hjn
      simp only [hw0, if_true]
      exact hany.2 _ (by rw [hseq.2.1]; simp)) _ _ _ _ hC H
  rw [htl, show n - 1 + (l.toArray.size - n) = l.toArray.size - 1 by omega] at T
  have := late_first (md := .any) hro h0a (Region.noSelect_spec hsel) hQ (l.toArray.size - 1) _ a w (Region.free_spec h0a hf0) hr0' hy T
  rw [show l.toArray.size - 1 + 1 = l.toArray.size by omega] at this
  exact this
theorem region_late_inRound {id r : Nat} {a : Act} {w : World} {l : List Oper} (n : Nat) (hro : F.round = none) (hd : noDefer l.toArray = true) (hm : P.follows .mixedOrders = true) (hB : lateB l.toArray n = true) (o0 on : Oper) (h0 : l[0]? = some o0) (hon : l[n]? = some on) (hgn : on.guard = none) (v0 : Value)
    (hQ : ∀ c a w, Q (.panic c) (a.put o0.dst v0) w → Q (.panic c) a w) (hy : YieldsD P l.toArray D o0 v0 a) (hCD : ∀ w, C w → D w) (hC : C w.drew)
    (h : wpQuietIn F m P l.toArray C (fun a' => ∀ w', C w' → ∀ K : Act → World → Prop, (∀ a'' w'', D w'' → wpListIn F m P l.toArray Q (l.drop (n + 1)) a'' w'' → K a'' w'') → Oper.wpIn F m P on a' w' K Q) ((l.drop 1).take (n - 1)) (a.put o0.dst v0)) :
    (Code.region id l.toArray true).wpIn (F.inRound r) m P Q a w :=
  region_inRound hro hd hm (any_late n hro hB o0 on h0 hon hgn v0 hQ hy hCD hC h)
end
end Go.PM
namespace Go.PM
open Go.RowKit
theorem own_box_ne' {w : World} {base : Nat} {e t : TypeId} {size n b : Nat} {v : Value} {cs : List Value} {c : Array Value} (h : w.ownsRow base e size v n cs) (hA : At w b t c) (hne : e ≠ t) : some b ≠ v.ownBlock := by
  rcases h.2 with ⟨rfl, _⟩ | ⟨g, cap, cur, rfl, _, hg, _⟩
  · simp [Value.ownBlock]
  · intro e'
    simp only [Value.ownBlock, Option.some.injEq] at e'
    subst e'
    unfold At at hA
    rw [hA] at hg
    cases hg
    exact hne rfl
theorem own_turn' {w w' : World} {base : Nat} {e : TypeId} {size n : Nat} {v : Value} {cs : List Value} {row : Option Nat} (h : w.ownsRow base e size v n cs) (hg : w.grownBy w' row) (hr : ∀ r, row = some r → ∃ o : Obj, w.heap[r]? = some o ∧ o.isCells = false) : w'.ownsRow base e size v n cs := by
  refine h.kept hg ?_
  rcases h.2 with ⟨rfl, _⟩ | ⟨g, cap, cur, rfl, _, hh, _⟩
  · exact .inl rfl
  · refine .inr fun e' => ?_
    obtain ⟨o, ho, hc⟩ := hr g e'.symm
    rw [hh] at ho
    cases ho
    cases hc
theorem at_turn' {w w' : World} {b : Nat} {t : TypeId} {c : Array Value} {row : Option Nat} (h : At w b t c) (hg : w.grownBy w' row) (hr : ∀ r, row = some r → ∃ o : Obj, w.heap[r]? = some o ∧ o.isCells = false) : At w' b t c := by
  refine (hg.block b h.lt fun e' => ?_).trans h
  obtain ⟨o, ho, hc⟩ := hr b e'.symm
  unfold At at h
  rw [h] at ho
  cases ho
  cases hc
theorem at_grown' {w w' : World} {b : Nat} {t : TypeId} {cs : Array Value} {row : Option Nat} (h : At w b t cs) (hg : w.grownBy w' row) (hne : some b ≠ row) : At w' b t cs := (hg.block b h.lt hne).trans h
end Go.PM
namespace Go.PM
open Go.RowKit
theorem box_apart {w : World} {base : Nat} {e t : TypeId} {size n b : Nat} {v : Value} {cs : List Value} {c : Array Value} (h : w.ownsRow base e size v n cs) (hA : At w b t c) (hne : e ≠ t) : some b ≠ v.ownBlock := by
  rcases h.2 with ⟨rfl, _⟩ | ⟨g, cap, cur, rfl, _, hg, _⟩
  · simp [Value.ownBlock]
  · intro e'
    simp only [Value.ownBlock, Option.some.injEq] at e'
    subst e'
    unfold At at hA
    rw [hA] at hg
    cases hg
    exact hne rfl
/-- a row of one's own outlasts the turn of a block that is no cells -/
theorem row_turn {w w' : World} {base : Nat} {e : TypeId} {size n : Nat} {v : Value} {cs : List Value} {row : Option Nat} (h : w.ownsRow base e size v n cs) (hg : w.grownBy w' row) (hr : ∀ r, row = some r → ∃ o : Obj, w.heap[r]? = some o ∧ o.isCells = false) : w'.ownsRow base e size v n cs := by
  refine h.kept hg ?_
  rcases h.2 with ⟨rfl, _⟩ | ⟨g, cap, cur, rfl, _, hh, _⟩
  · exact .inl rfl
  · refine .inr fun e' => ?_
    obtain ⟨o, ho, hc⟩ := hr g e'.symm
    rw [hh] at ho
    cases ho
    cases hc
theorem at_turn {w w' : World} {b : Nat} {t : TypeId} {c : Array Value} {row : Option Nat} (h : At w b t c) (hg : w.grownBy w' row) (hr : ∀ r, row = some r → ∃ o : Obj, w.heap[r]? = some o ∧ o.isCells = false) : At w' b t c := by
  refine h.grown hg fun e' => ?_
  obtain ⟨o, ho, hc⟩ := hr b e'.symm
  unfold At at h
  rw [h] at ho
  cases ho
  cases hc
theorem yieldsD_move {P : Program} {ops : Array Oper} {D : World → Prop} {o : Oper} {a : Act} (hgd : o.guard = none) (x : Operand) (ho : o.op = .move x) (v : Value) (hx : a.eval x = v) : YieldsD P ops D o v a := by
  subst hx
  refine ⟨by simp [Region.wanted, hgd], fun w _ => ?_, fun w => by simp [Oper.about, ho]⟩
  simp [execOp, ho]
theorem region_late_wide {P : Program} {m : Nat} {C D : World → Prop} {Q : Exit → Act → World → Prop} {id : Nat} {a : Act} {w : World} {l : List Oper} (n : Nat) (hm : P.follows .mixedOrders = true) (hB : lateB l.toArray n = true) (o0 on : Oper) (h0 : l[0]? = some o0) (hon : l[n]? = some on) (hgn : on.guard = none) (v0 : Value)
    (hQ : ∀ c a w, Q (.panic c) (a.put o0.dst v0) w → Q (.panic c) a w) (hy : YieldsD P l.toArray D o0 v0 a) (hCD : ∀ w, C w → D w) (hC : C w.drew)
    (h : wpQuietIn Fence.wide m P l.toArray C (fun a' => ∀ w', C w' → ∀ K : Act → World → Prop, (∀ a'' w'', D w'' → wpListIn Fence.wide m P l.toArray Q (l.drop (n + 1)) a'' w'' → K a'' w'') → Oper.wpIn Fence.wide m P on a' w' K Q) ((l.drop 1).take (n - 1)) (a.put o0.dst v0)) :
    (Code.region id l.toArray true).wp P Q a w :=
  wpIn_wide.1 (wpIn_region_any hm (any_late n rfl hB o0 on h0 hon hgn v0 hQ hy hCD hC h))
theorem yieldsD_load {P : Program} {ops : Array Oper} {o : Oper} {a : Act} (hgd : o.guard = none) (ty : TypeId) (x : Operand) (ho : o.op = .load ty x) (e : TypeId) (hu : P.underlying ty = some (.slice e)) (b : Nat) (hx : a.eval x = .pointer (some ⟨b, 0, none⟩)) (v : Value) :
    YieldsD P ops (fun w => w.cell? ⟨b, 0, none⟩ = some v) o v a := by
  refine ⟨by simp [Region.wanted, hgd], fun w hw => ?_, fun w => by simp [Oper.about, ho]⟩
  have hagg : (isAgg ty).run P w = .ok false w := by
    unfold isAgg
    rw [Sem.run_bind, run_underlying hu w]
    rfl
  simp [execOp, ho, hx, Instr.loadAt, Instr.sureAddr, loadVar, Sem.run_bind, hagg, run_load, hw]
theorem sliceIn {F : Fence} {n : Nat} {P : Program} {o : Oper} {a : Act} {w : World} {K : Act → World → Prop} {Q : Exit → Act → World → Prop} (t e : TypeId) (len : Nat) (parts : Array (Nat × Operand)) (ho : o.op = .buildSlice t len parts)
    (cells : Array Value) (ie : TypeInfo) (z : Value)
    (hu : P.underlying t = some (.slice e)) (hie : P.info? e = some ie) (hz : ie.zero = some z) (hsmall : ¬ len * ie.size > 2 ^ 24) (hpos : ¬ len * ie.size = 0)
    (hf : Instr.fill (fun i => some (i * ie.size, ie.size)) ((Array.range (len * ie.size)).map (z.cells[· % z.cells.size]!)) (parts.map fun (i, x) => (i, a.eval x)).toList = some cells)
    (h : K (a.put o.dst (.slice (some ⟨w.heap.size, 0, none⟩) len len)) (w.alloc (.cells cells e))) : o.wpIn F n P a w K Q := by
  unfold Oper.wpIn
  refine ⟨by simp [Oper.about, ho], ?_⟩
  rw [Oper.semAt_plain F _ _ (by rw [ho]; intro c hc'; cases hc')]
  unfold execOp
  simp only [ho, Sem.run_bind, run_buildSlice w t e len _ cells ie z hu hie hz hsmall hpos hf, Result.andThen_ok]
  exact h
end Go.PM
namespace Go.Proofs.Yteadhnpmmpninaa
open Go.RowKit Go.PM
theorem sliceIn_mv {F : Fence} {n : Nat} {o : Oper} {a : Act} {w : World} {K : Act → World → Prop} {Q : Exit → Act → World → Prop} (x : Operand) (ho : o.op = .buildSlice 23 1 #[(0, x)]) (s t : ByteArray) (hx : a.eval x = .agg #[.string s, .string t])
    (h : K (a.put o.dst (.slice (some ⟨w.heap.size, 0, none⟩) 1 1)) (w.alloc (.cells #[.string s, .string t] 31))) : o.wpIn F n Try.prog a w K Q := by
  obtain ⟨i0, hi0, hz0, hz1, hz2⟩ := info_parts infoMv
  refine sliceIn 23 31 1 #[(0, x)] ho #[.string s, .string t] i0 _ Try.underlying23 hi0 hz0 (by rw [hz1]; decide) (by rw [hz1]; decide) ?_ h
  have hr : Array.range 2 = #[0, 1] := by decide
  simp [hx, hz1, Instr.fill, Value.cells, hr]
theorem listIn_mv {F : Fence} {k : Nat} {ops : Array Oper} {rest : List Oper} {o : Oper} {a : Act} {Q : Exit → Act → World → Prop} {w : World} (hgd : o.guard = none) (s x : Operand)
    (ho : o.op = .call { callee := .builtin .append, args := #[s, x], argTypes := #[23, 23] })
    (base : Nat) (v : Value) (ys : List Mv) (m : Mv) (ad : Addr) (c : Nat) (hs : a.eval s = v) (hx : a.eval x = .slice (some ad) 1 c)
    (hown : w.ownsRow base 31 2 v ys.length (mcells ys)) (hnew : ∀ j u, [Value.string m.1, Value.string m.2][j]? = some u → w.cell? (ad.add j) = some u)
    (hlen : ys.length ≤ 1048576) (hbase : base ≤ w.heap.size)
    (h : ∀ v' w', w'.ownsRow base 31 2 v' (ys ++ [m]).length (mcells (ys ++ [m])) → w.grownBy w' v.ownBlock → wpListIn F k Try.prog ops Q rest (a.put o.dst v') w') : wpListIn F k Try.prog ops Q (o :: rest) a w := by
  obtain ⟨i0, hi0, hz0, hz1, hz2⟩ := info_parts infoMv
  refine wpListIn_append_own w hgd s x _ ho base 31 i0 _ 2 32 Try.underlying23 hi0 hz0 hz1 hz2 rfl (by omega) v ys.length (mcells ys) hs hown ad 1 c [Value.string m.1, Value.string m.2] hx rfl hnew
    (by intro u hu; simp at hu; rcases hu with rfl | rfl <;> rfl) (by simp only [maxLen]; omega) (by omega) hbase ?_
  intro v' w' h2 h3 _
  refine h v' w' ?_ h3
  rw [mcells_append, List.length_append]
  simpa [mcells] using h2
end Go.Proofs.Yteadhnpmmpninaa
namespace Go.PS
open Go.PM Go.RowKit
/-- goals in cells -/
def gC (g : Nat → Nat) : Array Value := #[.int .i64 (g 0 : Nat), .int .i64 (g 1 : Nat), .int .i64 (g 2 : Nat), .int .i64 (g 3 : Nat), .int .i64 (g 4 : Nat), .int .i64 (g 5 : Nat), .int .i64 (g 6 : Nat), .int .i64 (g 7 : Nat), .int .i64 (g 8 : Nat)]
theorem gC_size (g : Nat → Nat) : (gC g).size = 9 := rfl
theorem gC_at (g : Nat → Nat) (p : Nat) (hp : p < 9) : (gC g)[p]? = some (.int .i64 (g p : Nat)) := by
  match p, hp with
  | 0, _ | 1, _ | 2, _ | 3, _ | 4, _ | 5, _ | 6, _ | 7, _ | 8, _ => rfl
def setN (g : Nat → Nat) (p x : Nat) : Nat → Nat := fun q => if q = p then x else g q
theorem gC_set (g : Nat → Nat) (p : Nat) (hp : p < 9) (x : Nat) : (gC g).setIfInBounds p (.int .i64 (x : Nat)) = gC (setN g p x) := by
  match p, hp with
  | 0, _ | 1, _ | 2, _ | 3, _ | 4, _ | 5, _ | 6, _ | 7, _ | 8, _ => simp [gC, setN]
theorem gC_congr {f g : Nat → Nat} (h : ∀ p, p < 9 → f p = g p) : gC f = gC g := by
  unfold gC
  rw [h 0 (by omega), h 1 (by omega), h 2 (by omega), h 3 (by omega), h 4 (by omega), h 5 (by omega), h 6 (by omega), h 7 (by omega), h 8 (by omega)]
theorem gC_one (g : Nat → Nat) : (gC g).all (·.oneCell') = true := by simp [gC, Value.oneCell']
theorem grown_cellP (W : World) (a : Addr) (v : Value) : W.grownBy (W.setCell a v) (some a.block) :=
  ⟨rfl, rfl, rfl, by simp [World.size_setCell], fun k _ hne => heap_setCell_other W a k v (fun e => hne (by rw [e]))⟩
theorem swp_set (g : Nat → Nat) (p q : Nat) : setN (setN g p (g q)) q (g p) = swp g p q := by
  funext x
  show (if x = q then g p else if x = p then g q else g x) = g (tr p q x)
  unfold tr
  by_cases h1 : x = q
  · rw [if_pos h1]
    by_cases h2 : x = p
    · rw [if_pos h2, ← h1, ← h2]
    · rw [if_neg h2, if_pos h1]
  · rw [if_neg h1]
    by_cases h2 : x = p
    · rw [if_pos h2, if_pos h2]
    · rw [if_neg h2, if_neg h2, if_neg h1]
end Go.PS
namespace Go.Proofs.Yteadhnpmmpninaa
open Go.RowKit Go.PM Go.PS Go.Lib
attribute [local go_sem] Oper.semAt_some

set_option maxRecDepth 100000 in
theorem indexP_c (g : Nat → Nat) (hg : Prm g) (b p : Nat) (hp : p < 9) (w : World) (hA : At w b 106 (gC g)) :
    Calls Try.prog 123 #[.slice (some ⟨b, 0, none⟩) 9 9, .int .i64 p] w fun e w' => e = .returned (.int .i64 (hold g p : Nat)) ∧ w = w' := by
  have h1 := hg.hold hp
  have HI := Lib.hid (fun q hq => hg.hold_iff hp hq (q := q))
  have hcs : ∀ q, q < 9 → w.cell? ⟨b, q, none⟩ = some (.int .i64 (g q : Nat)) := fun q hq => (hA.cell q).trans (gC_at g q hq)
  have hbl := hA.lt
  generalize hold g p = r at *
  go_enter Try.func123, Try.ntmps123
  go_wp2
  go_loopw [5, 8] (fun _ i wr => ∃ (k : Nat), k ≤ r ∧ i = .int .i64 k ∧ Hid (wr = w)) (fun _ i _ => 9 - (RowKit.intOf i).toNat)
  case atStart => exact ⟨0, by omega, rfl, rfl⟩
  case round =>
    obtain ⟨k, hk, rfl, hwr⟩ := hrel
    have hwr' := hwr.out
    subst hwr'
    have hlt : k < 9 := by omega
    have hd := hcs k hlt
    have i0 : (0 : Int) ≤ (k : Int) := by omega
    have i1 : (k : Int) < 9 := by omega
    have hiff := HI.out k hlt
    have HK := Lib.hid hiff
    clear hiff hcs hA
    by_cases e : g k = p
    · have hr : r = k := HK.out.1 e
      have ee : ((p : Int) == (g k : Int)) = true := by rw [beq_iff_eq]; omega
      subst hr
      generalize g r = x at *
      go_wp2
      go_ret
      exact ⟨rfl, rfl⟩
    · have ee : ((p : Int) == (g k : Int)) = false := by rw [beq_eq_false_iff_ne]; omega
      have hkr : k ≠ r := fun e2 => e (HK.out.2 e2.symm)
      have HKR := Lib.hid hkr
      clear hkr
      generalize g k = x at *
      go_wp2
      go_roundw
      case rel => exact ⟨k + 1, by have := HKR.out; omega, by go_num, trivial⟩
      case measure => simp [RowKit.intOf]; omega
theorem holder_c (g : Nat → Nat) (hg : Prm g) (b p : Nat) (hp : p < 9) (w : World) (hA : At w b 106 (gC g)) :
    Calls Try.prog 91 #[.pointer (some ⟨b, 0, none⟩), .int .i64 p] w fun e w' => e = .returned (.int .i64 (hold g p : Nat)) ∧ w = w' := by
  have HC := Lib.hid (indexP_c g hg b p hp w hA)
  have hlt := hA.lt
  go_enter Try.func91, Try.ntmps91
  go_wp2_with (go_at_call 123; refine HC.out.mono ?_; rintro e w' ⟨rfl, rfl⟩)
  go_ret
  exact ⟨rfl, rfl⟩
set_option maxRecDepth 100000 in
theorem descends_c (g : Nat → Nat) (b k : Nat) (hk : k < 8) (w : World) (hA : At w b 106 (gC g)) :
    Calls Try.prog 93 #[.pointer (some ⟨b, 0, none⟩), .int .i64 k] w fun e w' => e = .returned (.bool (dsc g k)) ∧ w.drew = w' := by
  have HD : Hid (dsc g k = decide (g (k + 1) < g k)) := rfl
  have c1 : w.drew.cell? ⟨b, k, none⟩ = some (.int .i64 (g k : Nat)) := (hA.cell k).trans (gC_at g k (by omega))
  have c2 : w.drew.cell? ⟨b, k + 1, none⟩ = some (.int .i64 (g (k + 1) : Nat)) := (hA.cell (k + 1)).trans (gC_at g (k + 1) (by omega))
  have hlt := hA.lt
  have i0 : (0 : Int) ≤ (k : Int) := by omega
  have i1 : (k : Int) < 9 := by omega
  have i2 : (k : Int) + 1 < 9 := by omega
  have i3 : (0 : Int) ≤ (k : Int) + 1 := by omega
  have i4 : IntKind.i64.wrap ((k : Int) + 1) = (k : Int) + 1 := IntWalk.i64_in _ ⟨by omega, by omega⟩
  have i5 : ((k : Int) + 1).toNat = k + 1 := by omega
  clear hA
  generalize g (k + 1) = y at *
  generalize g k = x at *
  go_enter Try.func93, Try.ntmps93
  go_wp2
  refine wp_region_quiet (C := fun w' => w' = w.drew) (by kernel_rfl) (by kernel_rfl) rfl ?_
  simp only
  repeat (go_big_quiet_step (fail))
  refine wpQuiet_nil ?_
  intro w2 hw'
  subst hw'
  go_wp2
  go_ret
  exact ⟨by rw [HD.out]; rfl, rfl⟩
theorem results_stp (fn : Func) (hr : fn.results = #[.cell 6 33]) (W : World) (b : Nat) (k : Int) (a c : ByteArray) (hA : At W b 33 #[.int .i64 k, .string a, .string c]) (tmps : Array Value) (h2 : tmps.getD 6 undef = .pointer (some ⟨b, 0, none⟩)) :
    (results fn tmps).run Try.prog W = .ok (.agg #[.int .i64 k, .string a, .string c]) W := by
  have q0 := hA.cell 0
  have q1 := hA.cell 1
  have q2 := hA.cell 2
  simp at q0 q1 q2
  simp only [Array.getD_eq_getD_getElem?] at h2
  simp [results, hr, go_sem, h2, q0, q1, q2]
set_option maxRecDepth 100000 in
set_option maxHeartbeats 1600000 in
theorem swap_c (g : Nat → Nat) (b p q : Nat) (hp : p < 9) (hq : q < 9) (hpq : p ≠ q) (w : World) (hA : At w b 106 (gC g)) :
    Calls Try.prog 90 #[.pointer (some ⟨b, 0, none⟩), .int .i64 p, .int .i64 q] w fun e w' => e = .returned (.agg #[.int .i64 1, .string (nm p), .string (nm q)]) ∧ At w' b 106 (gC (swp g p q)) ∧ w.grownBy w' (some b) := by
  have hn1 := fun W' => name_c p hp W'
  have hn2 := fun W' => name_c q hq W'
  have hlt := hA.lt
  obtain ⟨W1, hW1e⟩ : ∃ W1, W1 = w.alloc (.cells #[.int .i64 0, .string ⟨#[]⟩, .string ⟨#[]⟩] 33) := ⟨_, rfl⟩
  have hb1 : Below w.heap.size w W1 := by rw [hW1e]; exact (Below.refl _ _).alloc (Nat.le_refl _) _
  have hz1 : W1.heap.size = w.heap.size + 1 := by rw [hW1e]; simp
  have hA1 : At W1 b 106 (gC g) := hA.keep hb1
  have hN1 : At W1 w.heap.size 33 #[.int .i64 0, .string ⟨#[]⟩, .string ⟨#[]⟩] := by rw [hW1e]; exact At.new _ _ _
  have hA2 := (hA1.set p (.int .i64 (g q : Nat))).set q (.int .i64 (g p : Nat))
  rw [gC_set g p hp, gC_set _ q hq, swp_set] at hA2
  have hg1 := (grown_cellP W1 ⟨b, p, none⟩ (.int .i64 (g q : Nat)))
  have hg2 := (grown_cellP (W1.setCell ⟨b, p, none⟩ (.int .i64 (g q : Nat))) ⟨b, q, none⟩ (.int .i64 (g p : Nat)))
  have hgg := grown_trans (grown_below hb1 (some b)) (grown_trans hg1 hg2)
  have hN2 := (hN1.far (show w.heap.size ≠ (⟨b, p, none⟩ : Addr).block by show w.heap.size ≠ b; omega) (.int .i64 (g q : Nat))).far (show w.heap.size ≠ (⟨b, q, none⟩ : Addr).block by show w.heap.size ≠ b; omega) (.int .i64 (g p : Nat))
  have c1 : W1.cell? ⟨b, p, none⟩ = some (.int .i64 (g p : Nat)) := (hA1.cell p).trans (gC_at g p hp)
  have c2 : W1.cell? ⟨b, q, none⟩ = some (.int .i64 (g q : Nat)) := (hA1.cell q).trans (gC_at g q hq)
  have f1 := hA1.frozen p
  have f2 := hA1.frozen q
  have i0 : (0 : Int) ≤ (p : Int) := by omega
  have i1 : (p : Int) < 9 := by omega
  have i2 : (0 : Int) ≤ (q : Int) := by omega
  have i3 : (q : Int) < 9 := by omega
  have hbz : b < W1.heap.size := by omega
  clear hA hA1 hN1 hg1 hg2 hb1
  generalize g p = x at *
  generalize g q = y at *
  generalize swp g p q = g2 at *
  generalize nm p = np at *
  generalize nm q = nq at *
  go_enter Try.func90, Try.ntmps90
  go_wp2
  rw [← hW1e]
  clear hW1e
  go_region
  obtain ⟨W2, hW2⟩ : ∃ W2, W2 = ((W1.setCell ⟨b, p, none⟩ (.int .i64 (y : Nat))).setCell ⟨b, q, none⟩ (.int .i64 (x : Nat))).drew := ⟨_, rfl⟩
  have hA3 : At W2 b 106 (gC g2) := by rw [hW2]; exact hA2
  have hN3 : At W2 w.heap.size 33 #[.int .i64 0, .string ⟨#[]⟩, .string ⟨#[]⟩] := by rw [hW2]; exact hN2
  have hG3 : w.grownBy W2 (some b) := by rw [hW2]; exact ⟨hgg.os, hgg.tape, hgg.output, hgg.size, hgg.block⟩
  rw [← hW2]
  clear hW2 hA2 hN2 hgg c1 c2 f1 f2
  have z0 := hN3.frozen 0
  have z1 := hN3.frozen 1
  have z2 := hN3.frozen 2
  have hNl := hN3.lt
  have k0 : W2.cell? ⟨w.heap.size, 0, none⟩ = some (.int .i64 0) := hN3.cell 0
  have k1 : W2.cell? ⟨w.heap.size, 1, none⟩ = some (.string ⟨#[]⟩) := hN3.cell 1
  have k2 : W2.cell? ⟨w.heap.size, 2, none⟩ = some (.string ⟨#[]⟩) := hN3.cell 2
  have hA4 := ((hA3.far (show b ≠ (⟨w.heap.size, 0, none⟩ : Addr).block by show b ≠ w.heap.size; omega) (.int .i64 1)).far (show b ≠ (⟨w.heap.size, 1, none⟩ : Addr).block by show b ≠ w.heap.size; omega) (.string np)).far (show b ≠ (⟨w.heap.size, 2, none⟩ : Addr).block by show b ≠ w.heap.size; omega) (.string nq)
  have hG4 : w.grownBy (((W2.setCell ⟨w.heap.size, 0, none⟩ (.int .i64 1)).setCell ⟨w.heap.size, 1, none⟩ (.string np)).setCell ⟨w.heap.size, 2, none⟩ (.string nq)) (some b) :=
    ⟨hG3.os, hG3.tape, hG3.output, by simp [World.size_setCell]; exact hG3.size, fun k hk hne => by
      rw [heap_setCell_other _ _ _ _ (by show k ≠ w.heap.size; omega), heap_setCell_other _ _ _ _ (by show k ≠ w.heap.size; omega), heap_setCell_other _ _ _ _ (by show k ≠ w.heap.size; omega)]
      exact hG3.block k hk hne⟩
  have hN4 := ((hN3.set 0 (.int .i64 1)).set 1 (.string np)).set 2 (.string nq)
  have HN4 := Lib.hid hN4
  clear hN4
  have HA4 := Lib.hid hA4
  have HG4 := Lib.hid hG4
  clear hA4 hG4 hA3 hG3 hN3
  go_wp2_with (go_at_call 99; first | (refine (hn1 _).mono ?_; rintro e w' ⟨rfl, rfl⟩) | (refine (hn2 _).mono ?_; rintro e w' ⟨rfl, rfl⟩))
  refine bodyPost_ret (v := .agg #[.int .i64 1, .string np, .string nq]) (results_stp _ Try.results90 _ w.heap.size _ _ _ (by simpa using HN4.out) _ rfl) rfl ⟨rfl, HA4.out, HG4.out⟩
end Go.Proofs.Yteadhnpmmpninaa
namespace Go.PM
open Go.RowKit
section
variable {F : Fence} {m : Nat} {P : Program} {ops : Array Oper} {md : Region.Mode} {C D : World → Prop} {Q : Exit → Act → World → Prop}
/-- operations one behind the other, a fact kept till the first of the last ones -/
def wpListT (F : Fence) (m : Nat) (P : Program) (ops : Array Oper) (D : World → Prop) (Q : Exit → Act → World → Prop) (rest : List Oper) : List Oper → Act → World → Prop
  | [], a, w => D w ∧ wpListIn F m P ops Q rest a w
  | o :: l, a, w => D w ∧ Oper.wpIn F m P o a w (wpListT F m P ops D Q rest l) Q
theorem wpAnyT_of_list {rest : List Oper} (hne : rest ≠ []) : ∀ (l : List Oper) (k : Nat) (listed : Array Bool) (a : Act) (w : World), (∀ j, (l ++ rest)[j]? = ops[k + j]?) →
    Region.waitsFor md ops (k + l.length) 0 = true → (∀ o ∈ l, o.guard = none) → Region.seqB md ops (l.length + rest.length) k listed = true → wpListT F m P ops D Q rest l a w → wpAnyT F m P md ops D Q (l.length + rest.length) listed a w
  | [], k, listed, a, w, hl, hw0, _, hB, h => by
    obtain ⟨hD, hlist⟩ := h
    cases rest with
    | nil => exact absurd rfl hne
    | cons o r =>
      have hl' : ∀ j, (o :: r)[j]? = ops[k + j]? := fun j => by simpa using hl j
      have hB' : Region.seqB md ops (o :: r).length k listed = true := by simpa using hB
      have hany := wpAnyIn_of_seq' (md := md) (Q' := Q) (o :: r) k listed a w hl' hB' hlist
      simp only [List.length_cons, Region.seqB, Bool.and_eq_true, decide_eq_true_eq] at hB'
      simp only [List.length_nil, Nat.zero_add, List.length_cons] at hany ⊢
      refine ⟨hD, hany.1, fun j hj => ?_⟩
      rw [hB'.1] at hj
      have hjn : j = k := by simpa using hj
      subst hjn
      have hw0' : Region.waitsFor md ops j 0 = true := by simpa using hw0
      simp only [hw0', if_true]
      exact hany.2 _ (by rw [hB'.1]; simp)
  | o :: l, k, listed, a, w, hl, hw0, hg, hB, h => by
    obtain ⟨hD, hop⟩ := h
    have h0 : ops[k]? = some o := by simpa using (hl 0).symm
    have e : (o :: l).length + rest.length = (l.length + rest.length) + 1 := by simp only [List.length_cons]; omega
    rw [e] at hB ⊢
    simp only [Region.seqB, Bool.and_eq_true, decide_eq_true_eq] at hB
    refine ⟨hD, fun h1 => (by rw [hB.1] at h1; cases h1), fun j hj => ?_⟩
    rw [hB.1] at hj
    have hjk : j = k := by simpa using hj
    subst hjk
    have hwn : Region.wanted o (yielded ops a.tmps) = true := by simp [Region.wanted, hg o (by simp)]
    have hw : wpOpIn F m P ops Q j (wpListT F m P ops D Q rest l) a w := by
      unfold wpOpIn
      simp only [h0]
      rw [if_pos hwn]; exact hop
    refine wpOpIn_mono (fun a' w' h' => ?_) hw
    have hT := wpAnyT_of_list hne l (j + 1) (listed.setIfInBounds j true) a' w' (fun i => by have := hl (i + 1); simpa [Nat.add_assoc, Nat.add_comm 1 i] using this) (by
      have : j + 1 + l.length = j + (o :: l).length := by simp only [List.length_cons]; omega
      rw [this]; exact hw0) (fun o' ho' => hg o' (by simp [ho'])) hB.2 h'
    split
    · exact wpAnyT_any _ _ _ _ hT
    · exact hT
/-- what is asked of the region's form -/
def lateB2 (ops : Array Oper) (n k : Nat) : Bool :=
  Region.noSelect ops && decide (0 < n) && decide (n + k < ops.size) && sinkB1 .any ops n && Region.chainB .any ops n && Region.lexHead .any ops (ops.size - n) (n - 1) 1 ((Array.replicate ops.size false).setIfInBounds 0 true) &&
    Region.waitsFor .any ops (n + k) 0 && Region.free .any ops (Array.replicate ops.size false) 0 && (Region.ready .any ops (Array.replicate ops.size false)).contains 0
/-- A region that draws its order, whose first operation reads what only the last ones turn: it first, n - 1 quiet ones, k that turn something else, the others one behind the other. -/
theorem any_late2 {a : Act} {w : World} {l : List Oper} (n k : Nat) (hro : F.round = none) (hB : lateB2 l.toArray n k = true) (o0 : Oper) (h0 : l[0]? = some o0) (hgn : ∀ o ∈ (l.drop n).take k, o.guard = none) (v0 : Value)
    (hQ : ∀ c a w, Q (.panic c) (a.put o0.dst v0) w → Q (.panic c) a w) (hy : YieldsD P l.toArray D o0 v0 a) (hCD : ∀ w, C w → D w) (hC : C w)
    (h : wpQuietIn F m P l.toArray C (fun a' => ∀ w', C w' → wpListT F m P l.toArray D Q (l.drop (n + k)) ((l.drop n).take k) a' w') ((l.drop 1).take (n - 1)) (a.put o0.dst v0)) :
    wpAnyIn F m P .any l.toArray Q l.toArray.size (Array.replicate l.toArray.size false) a w := by
  simp only [lateB2, Bool.and_eq_true, decide_eq_true_eq] at hB
  obtain ⟨⟨⟨⟨⟨⟨⟨⟨hsel, hn0⟩, hn⟩, hs⟩, hc⟩, hlex⟩, hw0⟩, hf0⟩, hr0⟩ := hB
  have hn' : n + k < l.length := by simpa using hn
  have hr0' : 0 ∈ Region.ready .any l.toArray (Array.replicate l.toArray.size false) := by simpa using hr0
  have h0a : l.toArray[0]? = some o0 := by simpa using h0
  have inv0 : HeadInv .any l.toArray n (Array.replicate l.toArray.size false) :=
    ⟨by simp, fun j oj _ hl => (by rw [getD_replicate_false] at hl; cases hl), fun t _ ht => getD_in (by simpa using ht) (getD_replicate_false _ _)⟩
  have inv1 := inv0.set hr0' hn0
  have htl : ((l.drop 1).take (n - 1)).length = n - 1 := by simp; omega
  have H := wpAnyLQ1_lex (md := .any) (g := l.toArray.size - n) hsel hs hc (by omega) ((l.drop 1).take (n - 1)) 1 _ (a.put o0.dst v0) (by decide) (fun j hj => by
    have hj' : j < n - 1 := by rw [htl] at hj; exact hj
    simp [hj', Nat.add_comm]) (by rw [htl]; omega) inv1 (by rw [htl]; exact hlex) h
  have hlm : ((l.drop n).take k).length = k := by simp; omega
  have hlr : (l.drop (n + k)).length = l.length - (n + k) := by simp
  have hsz : ((l.drop n).take k).length + (l.drop (n + k)).length = l.toArray.size - n := by rw [hlm, hlr]; simp; omega
  have happ : (l.drop n).take k ++ l.drop (n + k) = l.drop n := by rw [← List.drop_drop]; exact List.take_append_drop _ _
  have T := wpAnyT_of_headQ (D := D) (Q := Q) (g := l.toArray.size - n) hro hCD (fun listed a' w' hw' hL => by
    obtain ⟨hseq, hLq⟩ := hL
    rw [← hsz] at hseq ⊢
    exact wpAnyT_of_list (fun e => by rw [e] at hlr; simp at hlr; omega) _ n listed a' w' (fun j => by rw [happ]; simp [List.getElem?_drop]) (by rw [hlm]; exact hw0) hgn hseq (hLq w' hw')) _ _ _ _ hC H
  rw [htl, show n - 1 + (l.toArray.size - n) = l.toArray.size - 1 by omega] at T
  have := late_first (md := .any) hro h0a (Region.noSelect_spec hsel) hQ (l.toArray.size - 1) _ a w (Region.free_spec h0a hf0) hr0' hy T
  rw [show l.toArray.size - 1 + 1 = l.toArray.size by omega] at this
  exact this
theorem region_late2_inRound {id r : Nat} {a : Act} {w : World} {l : List Oper} (n k : Nat) (hro : F.round = none) (hd : noDefer l.toArray = true) (hm : P.follows .mixedOrders = true) (hB : lateB2 l.toArray n k = true) (o0 : Oper) (h0 : l[0]? = some o0) (hgn : ∀ o ∈ (l.drop n).take k, o.guard = none) (v0 : Value)
    (hQ : ∀ c a w, Q (.panic c) (a.put o0.dst v0) w → Q (.panic c) a w) (hy : YieldsD P l.toArray D o0 v0 a) (hCD : ∀ w, C w → D w) (hC : C w.drew)
    (h : wpQuietIn F m P l.toArray C (fun a' => ∀ w', C w' → wpListT F m P l.toArray D Q (l.drop (n + k)) ((l.drop n).take k) a' w') ((l.drop 1).take (n - 1)) (a.put o0.dst v0)) :
    (Code.region id l.toArray true).wpIn (F.inRound r) m P Q a w :=
  region_inRound hro hd hm (any_late2 n k hro hB o0 h0 hgn v0 hQ hy hCD hC h)
theorem region_late2 {id : Nat} {a : Act} {w : World} {l : List Oper} (n k : Nat) (hro : F.round = none) (hm : P.follows .mixedOrders = true) (hB : lateB2 l.toArray n k = true) (o0 : Oper) (h0 : l[0]? = some o0) (hgn : ∀ o ∈ (l.drop n).take k, o.guard = none) (v0 : Value)
    (hQ : ∀ c a w, Q (.panic c) (a.put o0.dst v0) w → Q (.panic c) a w) (hy : YieldsD P l.toArray D o0 v0 a) (hCD : ∀ w, C w → D w) (hC : C w.drew)
    (h : wpQuietIn F m P l.toArray C (fun a' => ∀ w', C w' → wpListT F m P l.toArray D Q (l.drop (n + k)) ((l.drop n).take k) a' w') ((l.drop 1).take (n - 1)) (a.put o0.dst v0)) :
    (Code.region id l.toArray true).wpIn F m P Q a w :=
  wpIn_region_any hm (any_late2 n k hro hB o0 h0 hgn v0 hQ hy hCD hC h)
end
end Go.PM
namespace Go.PS
open Go.PM Go.RowKit
/-- swaps as steps -/
def swS (p : Nat × Nat) : St := (1, nm p.1, nm p.2)
def swL (ps : List (Nat × Nat)) : List St := ps.map swS
theorem swL_app (ps qs : List (Nat × Nat)) : swL (ps ++ qs) = swL ps ++ swL qs := by simp [swL]
theorem swL_len (ps : List (Nat × Nat)) : (swL ps).length = ps.length := by simp [swL]
theorem scells_one (xs : List St) : ∀ u ∈ scells xs, u.oneCell' = true := by
  intro u hu
  unfold scells at hu
  obtain ⟨x, _, hx⟩ := List.mem_flatMap.1 hu
  simp at hx
  rcases hx with rfl | rfl | rfl <;> rfl
theorem op_k {F : Fence} {n : Nat} {P : Program} {o : Oper} {a : Act} {w : World} {X : Act → World → Prop} {Q : Exit → Act → World → Prop} (h : ∀ K : Act → World → Prop, (∀ a w, X a w → K a w) → Oper.wpIn F n P o a w K Q) : Oper.wpIn F n P o a w X Q := h X fun _ _ h => h
/-- the cells of a row of one's own, at its address -/
theorem own_cellsAt {w : World} {base : Nat} {e : TypeId} {n b cap : Nat} {xs : List Value} {size : Nat} (h : w.ownsRow base e size (.slice (some ⟨b, 0, none⟩) n cap) n xs) : ∀ j u, xs[j]? = some u → w.cell? ((⟨b, 0, none⟩ : Addr).add j) = some u := by
  intro j u hu
  have hj : j < n * size := by have := (List.getElem?_eq_some_iff.1 hu).1; rw [h.1] at this; exact this
  rw [show (⟨b, 0, none⟩ : Addr).add j = ⟨b, j, none⟩ by unfold Addr.add; split <;> simp_all]
  rw [h.cellAt j hj]; exact hu
end Go.PS
namespace Go.Proofs.Yteadhnpmmpninaa
open Go.RowKit Go.PM Go.PS
theorem infoSt3 : (Try.prog.info? 33).map (fun i => (i.zero, i.size, i.bytes)) = some (some (.agg #[.int .i64 0, .string ⟨#[]⟩, .string ⟨#[]⟩]), 3, 40) := by kernel_rfl
theorem sliceIn_st {F : Fence} {n : Nat} {o : Oper} {a : Act} {w : World} {K : Act → World → Prop} {Q : Exit → Act → World → Prop} (x : Operand) (ho : o.op = .buildSlice 25 1 #[(0, x)]) (k : Int) (s t : ByteArray) (hx : a.eval x = .agg #[.int .i64 k, .string s, .string t])
    (h : K (a.put o.dst (.slice (some ⟨w.heap.size, 0, none⟩) 1 1)) (w.alloc (.cells #[.int .i64 k, .string s, .string t] 33))) : o.wpIn F n Try.prog a w K Q := by
  obtain ⟨i0, hi0, hz0, hz1, hz2⟩ := info_parts infoSt3
  refine sliceIn 25 33 1 #[(0, x)] ho #[.int .i64 k, .string s, .string t] i0 _ Try.underlying25 hi0 hz0 (by rw [hz1]; decide) (by rw [hz1]; decide) ?_ h
  have hr : Array.range 3 = #[0, 1, 2] := by decide
  simp [hx, hz1, Instr.fill, Value.cells, hr]
theorem listIn_st {F : Fence} {k : Nat} {ops : Array Oper} {rest : List Oper} {o : Oper} {a : Act} {Q : Exit → Act → World → Prop} {w : World} (hgd : o.guard = none) (s x : Operand)
    (ho : o.op = .call { callee := .builtin .append, args := #[s, x], argTypes := #[25, 25] })
    (base : Nat) (v : Value) (ys : List St) (m : St) (ad : Addr) (c : Nat) (hs : a.eval s = v) (hx : a.eval x = .slice (some ad) 1 c)
    (hown : w.ownsRow base 33 3 v ys.length (scells ys)) (hnew : ∀ j u, [Value.int .i64 m.1, Value.string m.2.1, Value.string m.2.2][j]? = some u → w.cell? (ad.add j) = some u)
    (hlen : ys.length ≤ 1048576) (hbase : base ≤ w.heap.size)
    (h : ∀ v' w', w'.ownsRow base 33 3 v' (ys ++ [m]).length (scells (ys ++ [m])) → w.grownBy w' v.ownBlock → wpListIn F k Try.prog ops Q rest (a.put o.dst v') w') : wpListIn F k Try.prog ops Q (o :: rest) a w := by
  obtain ⟨i0, hi0, hz0, hz1, hz2⟩ := info_parts infoSt3
  refine wpListIn_append_own w hgd s x _ ho base 33 i0 _ 3 40 Try.underlying25 hi0 hz0 hz1 hz2 rfl (by omega) v ys.length (scells ys) hs hown ad 1 c [Value.int .i64 m.1, Value.string m.2.1, Value.string m.2.2] hx rfl hnew
    (by intro u hu; simp at hu; rcases hu with rfl | rfl | rfl <;> rfl) (by simp only [maxLen]; omega) (by omega) hbase ?_
  intro v' w' h2 h3 _
  refine h v' w' ?_ h3
  have hcs : scells ys ++ [Value.int .i64 m.1, Value.string m.2.1, Value.string m.2.2] = scells (ys ++ [m]) := by rw [scells_append]; simp [scells]
  rw [← hcs, List.length_append]
  simpa using h2
/-- append of a whole row of steps -/
theorem run_app_rows (w : World) (ty : TypeId) (base base2 : Nat) (v v2 : Value) (ys zs : List St) (hown : w.ownsRow base 33 3 v ys.length (scells ys)) (hown2 : w.ownsRow base2 33 3 v2 zs.length (scells zs))
    (hlen : ys.length + zs.length ≤ 1048576) (hbase : base ≤ w.heap.size) :
    ∃ v' w', (Builtin.append_ #[25, 25] ty #[v, v2]).run Try.prog w = .ok v' w' ∧ w'.ownsRow base 33 3 v' (ys ++ zs).length (scells (ys ++ zs)) ∧ w.grownBy w' v.ownBlock := by
  obtain ⟨i0, hi0, hz0, hz1, hz2⟩ := info_parts infoSt3
  have hc2 := hown2.2
  rcases hc2 with ⟨rfl, hn⟩ | ⟨g, cap, cur, rfl, _, _, _⟩
  · have hz : zs = [] := List.length_eq_zero_iff.1 hn
    subst hz
    refine ⟨v, w, run_append_owned_none w base 25 ty 33 i0 3 Try.underlying25 hi0 v ys.length (scells ys) hown, by simpa using hown, grown_refl _ _⟩
  · obtain ⟨v', w', hr, r1, r2, _⟩ := run_append_own (P := Try.prog) w base 25 ty 33 i0 _ 3 40 Try.underlying25 hi0 hz0 hz1 hz2 rfl (by omega) v ys.length (scells ys) hown ⟨g, 0, none⟩ zs.length cap (scells zs) (scells_length zs) (own_cellsAt hown2) (scells_one zs) (by simp only [maxLen]; omega) (by omega) hbase
    refine ⟨v', w', hr, ?_, r2⟩
    rw [List.length_append, scells_append]; exact r1
theorem listIn_rows {F : Fence} {k : Nat} {ops : Array Oper} {rest : List Oper} {o : Oper} {a : Act} {Q : Exit → Act → World → Prop} {w : World} (hgd : o.guard = none) (s x : Operand)
    (ho : o.op = .call { callee := .builtin .append, args := #[s, x], argTypes := #[25, 25] })
    (base base2 : Nat) (v v2 : Value) (ys zs : List St) (hs : a.eval s = v) (hx : a.eval x = v2)
    (hown : w.ownsRow base 33 3 v ys.length (scells ys)) (hown2 : w.ownsRow base2 33 3 v2 zs.length (scells zs))
    (hlen : ys.length + zs.length ≤ 1048576) (hbase : base ≤ w.heap.size)
    (h : ∀ v' w', w'.ownsRow base 33 3 v' (ys ++ zs).length (scells (ys ++ zs)) → w.grownBy w' v.ownBlock → wpListIn F k Try.prog ops Q rest (a.put o.dst v') w') : wpListIn F k Try.prog ops Q (o :: rest) a w := by
  refine wpListIn_plain hgd fun K hK' => ?_
  obtain ⟨v', w', hrun, r1, r2⟩ := run_app_rows w o.type base base2 v v2 ys zs hown hown2 hlen hbase
  unfold Oper.wpIn
  refine ⟨?_, ?_⟩
  · simp [Oper.about, ho, resolve, Target.leads, Sem.run_pure]
  · rw [Oper.semAt_plain F _ _ (by rw [ho]; intro c hc'; cases hc')]
    simp [execOp, ho, resolve, invoke, builtin, hs, hx, hrun, Result.andThen]
    exact hK' _ _ (h v' w' r1 r2)
end Go.Proofs.Yteadhnpmmpninaa
namespace Go.Proofs.Yteadhnpmmpninaa
open Go.RowKit Go.PM
attribute [local go_sem] Oper.semAt_some

set_option maxRecDepth 100000 in
set_option maxHeartbeats 1000000 in
theorem below_iterN (N : Nat) (hN : N ≤ 1000) (F : Fence) (n : Nat) (hF : F.fn 89) (hro : F.round = none) (hn : 1 ≤ n) :
    Iter 0 F n Try.prog 89 (fun y => #[.int .i64 N] ++ #[y] ++ #[]) (fun p : Nat => #[.int .i64 p]) (List.range N) := by
  intro l J Jx W hJ hJx hY h0
  refine callsIn_of_wp Try.func89 rfl hF ?_ hro
  simp only [Try.ntmps89, List.size_toArray, List.length_cons, List.length_nil, Nat.reduceAdd, Nat.reduceSub, Array.replicate_succ, Array.replicate_zero, List.push_toArray, List.append_toArray, List.nil_append, List.cons_append]
  gi_wp2
  gi_loopw [4, 6] (fun _ i wr => ∃ k : Nat, k ≤ N ∧ i = .int .i64 k ∧ J (List.range k) wr ∧ W.heap.size ≤ wr.heap.size) (fun _ i _ => N - (intOf i).toNat)
  case atStart => exact ⟨0, by omega, rfl, h0, Nat.le_refl _⟩
  case round =>
    obtain ⟨k, hk, rfl, hj, hsz⟩ := hrel
    by_cases hlt : k < N
    · obtain ⟨fn, tmps, assign, body, hy, hR⟩ := hY (List.range k) k wr hj hsz (range_step k N hlt)
      gi_wp2
      refine hR.mono ?_
      rintro e W3 (⟨rfl, hJ3, hK3, _⟩ | ⟨rfl, hJx3, _⟩)
      · have hsz3 := Nat.le_trans hsz hK3.size
        gi_wp2
        go_roundw
        case rel => exact ⟨k + 1, by omega, by go_num, by rw [List.range_succ]; exact hJ3, hsz3⟩
        case measure => simp [intOf]; omega
      · gi_wp2
        refine bodyPost_ret (results_none rfl _ _ _) rfl ?_
        exact ⟨⟨_, rfl⟩, .inr ⟨_, range_step k N hlt, hJx3⟩⟩
    · have hk' : k = N := by omega
      have hj' := hj
      rw [hk'] at hj'
      clear hk'
      gi_wp2
      go_end0
      exact ⟨⟨_, rfl⟩, .inl hj'⟩
end Go.Proofs.Yteadhnpmmpninaa
namespace Go.PS
open Go.PM Go.RowKit
/-- what the swapping holds: goals, swaps, and its own blocks -/
def SwW (t1 t2 t3 t4 e : TypeId) (fv : Value) (w : World) (B b : Nat) (A : World) (ps : List (Nat × Nat)) (g : Nat → Nat) (o : Value) : Prop :=
  At A w.heap.size t1 #[.pointer (some ⟨b, 0, none⟩)] ∧ At A (w.heap.size + 1) t2 #[o] ∧ At A (w.heap.size + 1 + 1) t3 #[fv] ∧ A.ownsRow B e 3 o (swL ps).length (scells (swL ps)) ∧ At A b t4 (gC g) ∧ w.grownBy A (some b)
theorem SwW.turn {t1 t2 t3 t4 e : TypeId} {fv : Value} {w : World} {B b : Nat} {A A' : World} {ps : List (Nat × Nat)} {g : Nat → Nat} {o : Value} {row : Option Nat} (h : SwW t1 t2 t3 t4 e fv w B b A ps g o) (hg : A.grownBy A' row) (hr : ∀ r, row = some r → w.heap.size ≤ r ∧ ∃ ob : Obj, A.heap[r]? = some ob ∧ ob.isCells = false) : SwW t1 t2 t3 t4 e fv w B b A' ps g o := by
  obtain ⟨h1, h2, h3, h4, h5, h6⟩ := h
  refine ⟨at_turn h1 hg (fun r e => (hr r e).2), at_turn h2 hg (fun r e => (hr r e).2), at_turn h3 hg (fun r e => (hr r e).2), row_turn h4 hg (fun r e => (hr r e).2), at_turn h5 hg (fun r e => (hr r e).2), ?_⟩
  refine ⟨hg.os.trans h6.os, hg.tape.trans h6.tape, hg.output.trans h6.output, Nat.le_trans h6.size hg.size, fun i hi hne => ?_⟩
  rw [hg.block i (by have := h6.size; omega) (fun e => by have := (hr i e.symm).1; omega)]
  exact h6.block i hi hne
theorem at_cells {w : World} {b : Nat} {t : TypeId} {cs : Array Value} (h : At w b t cs) : ∀ (j : Nat) (ob : Obj), some b = some j → w.heap[j]? = some ob → ob.isCells = true := by
  intro j ob e hh
  cases e
  unfold At at h
  rw [h] at hh
  cases hh; rfl
theorem own_cells {w : World} {base : Nat} {e : TypeId} {size n : Nat} {v : Value} {cs : List Value} (h : w.ownsRow base e size v n cs) : ∀ (j : Nat) (ob : Obj), v.ownBlock = some j → w.heap[j]? = some ob → ob.isCells = true := by
  intro j ob e1 hh
  rcases h.2 with ⟨rfl, _⟩ | ⟨g, cap, cur, rfl, _, hg, _⟩
  · cases e1
  · cases e1
    rw [hg] at hh
    cases hh; rfl
theorem SwW.step {t1 t2 t3 t4 e : TypeId} (he1 : e ≠ t1) (he2 : e ≠ t2) (he3 : e ≠ t3) (he4 : e ≠ t4) {fv : Value} {w : World} {B b : Nat} {A A3 W5 : World} {ps qs : List (Nat × Nat)} {g g2 : Nat → Nat} {o o' : Value} {cs : Array Value}
    (h : SwW t1 t2 t3 t4 e fv w B b A ps g o) (hb : b < w.heap.size) (hB : w.heap.size + 3 ≤ B) (hA3 : At A3 b t4 (gC g2)) (hg3 : A.drew.grownBy A3 (some b))
    (hown5 : W5.ownsRow B e 3 o' (swL (ps ++ qs)).length (scells (swL (ps ++ qs)))) (hgrow5 : (A3.alloc (.cells cs e)).grownBy W5 o.ownBlock) :
    At W5 (w.heap.size + 1) t2 #[o] ∧ SwW t1 t2 t3 t4 e fv w B b (W5.setCell ⟨w.heap.size + 1, 0, none⟩ o') (ps ++ qs) g2 o' ∧ KeepsOthers A (W5.setCell ⟨w.heap.size + 1, 0, none⟩ o') := by
  obtain ⟨h1, h2, h3, h4, h5, h6⟩ := h
  have hsz := h6.size
  have g1 : At A.drew w.heap.size t1 #[.pointer (some ⟨b, 0, none⟩)] := h1
  have g2' : At A.drew (w.heap.size + 1) t2 #[o] := h2
  have g3 : At A.drew (w.heap.size + 1 + 1) t3 #[fv] := h3
  have g4 : A.drew.ownsRow B e 3 o (swL ps).length (scells (swL ps)) := h4
  have k1 := (at_grown' g1 hg3 (fun e => by cases e; omega)).alloc (.cells cs e)
  have k2 := (at_grown' g2' hg3 (fun e => by cases e; omega)).alloc (.cells cs e)
  have k3 := (at_grown' g3 hg3 (fun e => by cases e; omega)).alloc (.cells cs e)
  have hbe := own_block_ge h4
  have k4 := own_keep (own_grown g4 hg3 (.inl fun e => by have := hbe b e; omega)) ((Below.refl A3.heap.size A3).alloc (Nat.le_refl _) (.cells cs e))
  have k5 := hA3.alloc (.cells cs e)
  have m1 := at_grown' k1 hgrow5 (box_apart k4 k1 he1)
  have m2 := at_grown' k2 hgrow5 (box_apart k4 k2 he2)
  have m3 := at_grown' k3 hgrow5 (box_apart k4 k3 he3)
  have m5 := at_grown' k5 hgrow5 (box_apart k4 k5 he4)
  have hs5 := grownBy_setCell' W5 (w.heap.size + 1) o'
  have hne5 := box_apart hown5 m2 he2
  refine ⟨m2, ⟨at_grown' m1 hs5 (by simp), m2.set 0 _, at_grown' m3 hs5 (by simp), hown5.kept hs5 (.inr hne5.symm), at_grown' m5 hs5 (fun e => by cases e; omega), ?_⟩, ?_⟩
  · have hz3 := hg3.size
    have hz5 := hgrow5.size
    simp only [World.size_alloc] at hz5
    have hzd : A.drew.heap.size = A.heap.size := rfl
    refine ⟨hs5.os.trans (hgrow5.os.trans (hg3.os.trans h6.os)), hs5.tape.trans (hgrow5.tape.trans (hg3.tape.trans h6.tape)), hs5.output.trans (hgrow5.output.trans (hg3.output.trans h6.output)), by have := hs5.size; omega, fun i hi hne => ?_⟩
    rw [hs5.block i (by omega) (fun e => by cases e; omega), hgrow5.block i (by simp only [World.size_alloc]; omega) (fun e => by have := hbe i e.symm; omega)]
    rw [Below.heap_alloc A3 _ _ (by omega), hg3.block i (by omega) hne]
    exact h6.block i hi hne
  · have q1 : KeepsOthers A A3 := (KeepsOthers.drew A).trans (KeepsOthers.of_grownBy hg3 (at_cells (w := A.drew) h5))
    exact ((q1.trans (KeepsOthers.alloc A3 _)).trans (KeepsOthers.of_grownBy hgrow5 (own_cells k4))).trans (KeepsOthers.setCell _ _ _)
/-- one round of the walk along a ring -/
def RsR (t1 t2 t3 t4 e : TypeId) (fv : Value) (w : World) (B b : Nat) (W : World) (tot : List (Nat × Nat)) (ge : Nat → Nat) (k : Nat) (pv nv : Value) (A : World) : Prop :=
  ∃ (q : Nat) (ps : List (Nat × Nat)) (g : Nat → Nat) (o : Value), pv = .int .i64 q ∧ nv = .int .i64 (hold g q : Nat) ∧ q < 9 ∧ Prm g ∧ muG g ≤ k ∧ ps ++ (rsW k g q).1 = tot ∧ (rsW k g q).2 = ge ∧ SwW t1 t2 t3 t4 e fv w B b A ps g o ∧ KeepsOthers W A
end Go.PS
namespace Go.Proofs.Yteadhnpmmpninaa
open Go.RowKit Go.PM Go.PS Go.Lib
attribute [local go_sem] Oper.semAt_some

set_option maxRecDepth 100000 in
set_option maxHeartbeats 4000000 in
theorem ringSwaps_c (g : Nat → Nat) (hg : Prm g) (b : Nat) (w : World) (hA : At w b 106 (gC g)) :
    Calls Try.prog 46 #[.pointer (some ⟨b, 0, none⟩)] w fun e w' => ∃ v', e = .returned v' ∧ w'.ownsRow w.heap.size 33 3 v' (swL (rsA 9 g).1).length (scells (swL (rsA 9 g).1)) ∧ w.grownBy w' (some b) := by
  have hbl := hA.lt
  have HP := Lib.hid (fun k hk => rsA_prm hg k hk)
  have HLE := Lib.hid (fun k hk => rsA_le hg k hk)
  refine (callsIn_wide (n := 5)).1 ?_
  refine callsIn_of_wp_marks Try.func46 rfl trivial ?_ rfl
  simp only [Try.ntmps46, List.size_toArray, List.length_cons, List.length_nil, Nat.reduceAdd, Nat.reduceSub, Array.replicate_succ, Array.replicate_zero, List.push_toArray, List.append_toArray, List.nil_append, List.cons_append]
  gi_wp2
  obtain ⟨W0, hW0⟩ : ∃ W0 : World, W0 = (((w.alloc (.cells #[.pointer (some ⟨b, 0, none⟩)] 59)).alloc (.cells #[.slice none 0 0] 25)).alloc (.cells #[.func (.func 90) #[.pointer (some ⟨b, 0, none⟩)] #[]] 108)) := ⟨_, rfl⟩
  have hS0 : W0.heap.size = w.heap.size + 3 := by rw [hW0]; simp only [World.size_alloc]
  have hB0 : Below w.heap.size w W0 := by rw [hW0]; (repeat' (first | (with_reducible exact Below.refl _ _) | (with_reducible assumption) | (with_reducible refine Below.alloc ?_ ?_ _) | (with_reducible refine Below.drew ?_) | (with_reducible refine Below.setCell ?_ ?_ _) | (with_reducible exact Nat.le_refl _) | omega | ((repeat (first | rewrite [World.size_alloc] | rewrite [World.size_setCell] | rewrite [World.size_drew])); omega) | (simp; omega) | (simp; done)))
  have hI0 : SwW 59 25 108 106 33 (.func (.func 90) #[.pointer (some ⟨b, 0, none⟩)] #[]) w (W0.heap.size + 2) b W0 (rsA 0 g).1 (rsA 0 g).2 (.slice none 0 0) := by
    rw [hW0]
    refine ⟨((At.new _ _ _).alloc _).alloc _, ?_, ?_, ⟨rfl, .inl ⟨rfl, rfl⟩⟩, ((hA.alloc _).alloc _).alloc _, ?_⟩
    · have := (At.new (w.alloc (.cells #[.pointer (some ⟨b, 0, none⟩)] 59)) 25 #[.slice none 0 0]).alloc (.cells #[.func (.func 90) #[.pointer (some ⟨b, 0, none⟩)] #[]] 108)
      rwa [World.size_alloc] at this
    · have := At.new ((w.alloc (.cells #[.pointer (some ⟨b, 0, none⟩)] 59)).alloc (.cells #[.slice none 0 0] 25)) 108 #[.func (.func 90) #[.pointer (some ⟨b, 0, none⟩)] #[]]
      rwa [World.size_alloc, World.size_alloc] at this
    · rw [← hW0]; exact grown_below hB0 _
  rw [← hW0]
  clear hW0
  refine range_law (F := Fence.wide) (gf := 89) (lf := #[.int .i64 9]) (lb := #[]) rfl (by decide) rfl trivial (fun args w => rfl) (encs := fun p : Nat => #[.int .i64 p]) (xs := List.range 9)
    (below_iter _ _ trivial rfl (by decide)) (fun _ => rfl)
    (fun pre W => ∃ o, SwW 59 25 108 106 33 (.func (.func 90) #[.pointer (some ⟨b, 0, none⟩)] #[]) w (W0.heap.size + 2) b W (rsA pre.length g).1 (rsA pre.length g).2 o)
    (fun _ _ _ => False) ?_ (fun _ => ownFrom_pure _ _) ?_ (fun p => { tmps := #[.pointer (some ⟨b, 0, none⟩), .pointer (some ⟨w.heap.size, 0, none⟩), .slice none 0 0, .pointer (some ⟨w.heap.size + 1, 0, none⟩), .pointer (some ⟨w.heap.size + 1 + 1, 0, none⟩), .int .i64 p, undef, undef, .pointer (some ⟨b, 0, none⟩), .func (.func 90) #[.pointer (some ⟨b, 0, none⟩)] #[], .func (.func 89) #[.int .i64 9] #[], .int .i64 p, undef, undef, undef, undef, undef, undef, undef, undef, undef, undef, undef, undef, undef, undef, undef, undef, undef, undef, undef], defers := [] }) ?_ ?_ ?_ ?_
  · rintro s A A' row ⟨o, h⟩ hg hr
    exact ⟨o, h.turn hg (fun r e => ⟨by have := (hr r e).1; omega, (hr r e).2⟩)⟩
  · exact ⟨_, hI0⟩
  · intro l p W Kc hK
    gi_wp2
    exact hK
  · clear hI0
    rintro l pre p W ⟨o, hI⟩ hp hsz
    obtain ⟨hl, hp9⟩ := pre_len pre p hp
    rw [hl] at hI
    have HL : Hid ((pre ++ [p]).length = p + 1) := by show _ = _; simp [hl]
    have hP := HP.out p (by omega)
    have HT1 : Hid ((rsA p g).1 ++ (rsW 9 (rsA p g).2 p).1 = (rsA (p + 1) g).1) := rfl
    have HT2 : Hid ((rsW 9 (rsA p g).2 p).2 = (rsA (p + 1) g).2) := rfl
    have HLN := Lib.hid (HLE.out (p + 1) (by omega))
    obtain ⟨tot, htot0⟩ : ∃ tot, tot = (rsA (p + 1) g).1 := ⟨_, rfl⟩
    obtain ⟨ge, hge0⟩ : ∃ ge, ge = (rsA (p + 1) g).2 := ⟨_, rfl⟩
    have HA1 : Hid ((rsA (p + 1) g).1 = tot) := htot0.symm
    have HA2 : Hid ((rsA (p + 1) g).2 = ge) := hge0.symm
    rw [← htot0] at HT1 HLN
    rw [← hge0] at HT2
    clear htot0 hge0
    generalize (rsA p g).1 = ps0 at *
    generalize (rsA p g).2 = g0 at *
    have hII := hI
    obtain ⟨h1, h2, h3, h4, h5, h6⟩ := hI
    have c1 : W.cell? ⟨w.heap.size, 0, none⟩ = some (.pointer (some ⟨b, 0, none⟩)) := h1.cell 0
    have hbl1 := h1.lt
    have HH := Lib.hid (holder_c g0 hP b p hp9 W h5)
    clear h1 h2 h3 h4 h5 h6
    gi_wp2_with fail
    refine ⟨trivial, ?_⟩
    refine CallsIn.inRound l (callsIn_wide.2 (HH.out.mono ?_))
    rintro e wq ⟨rfl, rfl⟩
    gi_wp2

    gi_loopw [6, 7] (fun pv nv wr => ∃ k, RsR 59 25 108 106 33 (.func (.func 90) #[.pointer (some ⟨b, 0, none⟩)] #[]) w (W0.heap.size + 2) b W tot ge k pv nv wr)
      (fun pv nv wr => PW.least (fun k => RsR 59 25 108 106 33 (.func (.func 90) #[.pointer (some ⟨b, 0, none⟩)] #[]) w (W0.heap.size + 2) b W tot ge k pv nv wr))
    case atStart => exact ⟨9, p, ps0, g0, o, rfl, rfl, hp9, hP, muG_le g0, HT1.out, HT2.out, hII, KeepsOthers.refl W⟩
    case round =>
      obtain ⟨hru, _⟩ := PW.least_spec hrel
      generalize hkk : PW.least (fun k => RsR 59 25 108 106 33 (.func (.func 90) #[.pointer (some ⟨b, 0, none⟩)] #[]) w (W0.heap.size + 2) b W tot ge k u6 u7 wr) = kk at *
      have HKK := Lib.hid hkk
      clear hrel hkk
      obtain ⟨q, ps, g1, o1, rfl, rfl, hq9, hP1, hmu, htot, hge, hS, hKO⟩ := hru
      have hh := hP1.hold hq9
      by_cases hst : hold g1 q = q
      · rw [rsW_stop _ hst] at htot hge
        have htot' : ps = tot := by simpa using htot
        have hge' : g1 = ge := hge
        have FIN : Hid (∃ o, SwW 59 25 108 106 33 (.func (.func 90) #[.pointer (some ⟨b, 0, none⟩)] #[]) w (W0.heap.size + 2) b wr tot ge o) := ⟨o1, by rw [← htot', ← hge']; exact hS⟩
        have t1 : (((hold g1 q : Nat) : Int) != ((q : Nat) : Int)) = false := by rw [hst]; simp
        clear htot hge htot' hge' hS hst
        generalize hold g1 q = n1 at *
        gi_wp2
        refine ⟨hKO.from _, KeepsIn.zero hKO.size, ?_⟩
        have FIN2 := FIN.out
        rw [← HA1.out, ← HA2.out, ← HL.out] at FIN2
        exact FIN2
      · obtain ⟨k, rfl⟩ : ∃ k', kk = k' + 1 := ⟨kk - 1, by have := muG_step hP1 hq9 hst; omega⟩
        rw [rsW_go _ hst] at htot hge
        have hmu2 := muG_step hP1 hq9 hst
        have hpl : ps.length ≤ 9 := by
          have h1 := congrArg List.length htot
          rw [List.length_append] at h1
          have := HLN.out; omega
        have hP2 := hP1.swp hq9 hh.1
        have hSS := hS
        obtain ⟨h1, h2, h3, h4, h5, h6⟩ := hS
        have t1 : (((hold g1 q : Nat) : Int) != ((q : Nat) : Int)) = true := by rw [bne_iff_ne]; omega
        have hst' : q ≠ hold g1 q := fun e => hst e.symm
        have HSWAP := Lib.hid (swap_c g1 b q (hold g1 q) hq9 hh.1 hst' wr.drew h5)
        have c2 : wr.drew.cell? ⟨w.heap.size + 1, 0, none⟩ = some o1 := h2.cell 0
        have c3 : wr.drew.cell? ⟨w.heap.size + 1 + 1, 0, none⟩ = some (.func (.func 90) #[.pointer (some ⟨b, 0, none⟩)] #[]) := h3.cell 0
        have hz6 := h6.size
        have l2 := h2.lt
        have l3 := h3.lt
        have HNX : Hid (∀ A o, SwW 59 25 108 106 33 (.func (.func 90) #[.pointer (some ⟨b, 0, none⟩)] #[]) w (W0.heap.size + 2) b A (ps ++ [(q, hold g1 q)]) (swp g1 q (hold g1 q)) o → KeepsOthers W A → RsR 59 25 108 106 33 (.func (.func 90) #[.pointer (some ⟨b, 0, none⟩)] #[]) w (W0.heap.size + 2) b W tot ge k (.int .i64 (hold g1 q : Nat)) (.int .i64 (hold (swp g1 q (hold g1 q)) (hold g1 q) : Nat)) A) := fun A o hA hK =>
          ⟨hold g1 q, _, _, o, rfl, rfl, hh.1, hP2, by omega, by rw [← htot]; simp, hge, hA, hK⟩
        have hn9 := hh.1
        have HP2 := Lib.hid hP2
        clear htot hge hst hst' h1 h2 h3 h5 hh hP1 hP2 hmu2 hmu
        generalize swp g1 q (hold g1 q) = g2 at *
        generalize hold g1 q = n1 at *
        gi_wp2
        refine region_late2_inRound (F := Fence.wide) (C := fun w' => w' = wr.drew) (D := fun w' => w'.cell? ⟨w.heap.size + 1, 0, none⟩ = some o1) 4 2 rfl (by kernel_rfl) (by kernel_rfl) (by kernel_rfl) _ (by rfl) (by simp) o1 (fun _ _ _ h => h) (yieldsD_load (by rfl) _ _ (by rfl) _ Try.underlying25 _ (by rfl) o1) (fun w' hw => by subst hw; exact c2) rfl ?_
        simp only [List.take_succ_cons, List.take_zero, List.drop_succ_cons, List.drop_zero, Nat.reduceSub, Nat.reduceAdd]
        simp only [Act.put, List.setIfInBounds_toArray, List.set_cons_succ, List.set_cons_zero]
        gi_big_quiet_step (fail)
        gi_big_quiet_step (fail)
        gi_big_quiet_step (fail)
        refine wpQuietIn_nil ?_
        intro w' hw'
        subst hw'
        refine ⟨c2, op_k (fun K hK => ?_)⟩
        go_simp
        refine ⟨trivial, callsIn_wide.2 (HSWAP.out.mono ?_)⟩
        rintro e w3 ⟨rfl, hA3, hg3⟩
        refine hK _ _ ?_
        clear hK K
        have d2 : w3.cell? ⟨w.heap.size + 1, 0, none⟩ = some o1 := hg3.cell c2 (by show some (w.heap.size + 1) ≠ some b; intro e; cases e; omega)
        have hz3 := hg3.size
        refine ⟨d2, ?_⟩
        refine sliceIn_st (.tmp 26) rfl 1 (nm q) (nm n1) (by rfl) ?_
        have hal : Below w3.heap.size w3 (w3.alloc (.cells #[.int .i64 1, .string (nm q), .string (nm n1)] 33)) := (Below.refl _ _).alloc (Nat.le_refl _) _
        have l2d : w.heap.size + 1 < w3.heap.size := by have : wr.drew.heap.size = wr.heap.size := rfl; omega
        refine ⟨(hal.cell (p := ⟨w.heap.size + 1, 0, none⟩) l2d).trans d2, ?_⟩
        have hbe := own_block_ge h4
        have h4d : wr.drew.ownsRow (W0.heap.size + 2) 33 3 o1 (swL ps).length (scells (swL ps)) := h4
        have h4a := own_keep (own_grown h4d hg3 (.inl fun e => by have := hbe b e; omega)) hal
        refine listIn_st rfl (.tmp 22) (.tmp 27) rfl (W0.heap.size + 2) o1 (swL ps) (1, nm q, nm n1) ⟨w3.heap.size, 0, none⟩ 1 (by rfl) (by rfl) h4a (three_new w3 _ _ _ _) (by rw [swL_len]; omega) (by have := hKO.size; have : wr.drew.heap.size = wr.heap.size := rfl; simp; omega) ?_
        intro o' W5 hown5 hgrow5
        have hown5' : W5.ownsRow (W0.heap.size + 2) 33 3 o' (swL (ps ++ [(q, n1)])).length (scells (swL (ps ++ [(q, n1)]))) := by rw [swL_app]; exact hown5
        obtain ⟨k2, hS5, hKO5⟩ := SwW.step (by decide) (by decide) (by decide) (by decide) hSS hbl (by omega) hA3 hg3 hown5' hgrow5
        have d3 := k2.cell 0
        have d4 := k2.frozen 0
        have l5 := k2.lt
        have hS5' := hS5
        obtain ⟨e1, e2, e3, e4, e5, e6⟩ := hS5'
        have e1' : At W5 w.heap.size 59 #[.pointer (some ⟨b, 0, none⟩)] := (heap_setCell_other W5 ⟨w.heap.size + 1, 0, none⟩ w.heap.size o' (by show w.heap.size ≠ w.heap.size + 1; omega)).symm.trans e1
        have f1 : W5.cell? ⟨w.heap.size, 0, none⟩ = some (.pointer (some ⟨b, 0, none⟩)) := e1'.cell 0
        have f1l := e1'.lt
        have hR := HNX.out _ _ hS5 (hKO.trans hKO5)
        have HHN := Lib.hid (holder_c g2 HP2.out b n1 hn9 _ e5)
        rw [show (swL ps ++ [((1, nm q, nm n1) : St)]).length = (swL ps).length + 1 by simp] at hown5
        obtain ⟨A5, cap5, rfl, _⟩ := Rd.of_own hown5
        clear e1' e1 e2 e3 e4 e5 e6 hS5 hKO5 hown5 hown5' hgrow5 h4d h4a hal d2 c2 c3 hA3 hg3 h4 h6 hSS HNX HSWAP hz3 k2
        gi_wp2_with fail
        refine ⟨trivial, ?_⟩
        refine CallsIn.inRound l (callsIn_wide.2 (HHN.out.mono ?_))
        rintro e wq ⟨rfl, rfl⟩
        gi_wp2
        go_roundw
        case rel => exact ⟨k, hR⟩
        case measure =>
          rw [HKK.out]
          have := (PW.least_spec (P := fun k => RsR 59 25 108 106 33 (.func (.func 90) #[.pointer (some ⟨b, 0, none⟩)] #[]) w (W0.heap.size + 2) b W tot ge k _ _ _) ⟨k, hR⟩).2 _ hR
          omega
  · intro D W hD hI hd
    obtain ⟨o, h1, h2, h3, h4, h5, h6⟩ := hI
    have c3 : W.cell? ⟨w.heap.size + 1, 0, none⟩ = some o := h2.cell 0
    have hDD : w.heap.size + 3 ≤ D := by omega
    clear h1 h2 h3 h5 hI0
    gi_wp2
    refine ⟨by simp, .inl ⟨D, _, rfl, run_takeDeferred hd, ?_⟩⟩
    refine ⟨_, results_tmp rfl _ _ _, _, rfl, own_more (row_turn h4 (grownBy_putObj' W D _) (fun r e => by cases e; exact ⟨_, hd, rfl⟩)) (by omega), ?_⟩
    refine ⟨h6.os, h6.tape, h6.output, by simp [World.putObj]; exact h6.size, fun i hi hne => ?_⟩
    rw [World.putObj_heap_other (by omega)]
    exact h6.block i hi hne
  · intro _ _ _ _ _ _ hf
    exact hf.elim
end Go.Proofs.Yteadhnpmmpninaa
namespace Go.PS
open Go.PM Go.RowKit
theorem SwW.drew {t1 t2 t3 t4 e : TypeId} {fv : Value} {w : World} {B b : Nat} {A : World} {ps : List (Nat × Nat)} {g : Nat → Nat} {o : Value} (h : SwW t1 t2 t3 t4 e fv w B b A ps g o) : SwW t1 t2 t3 t4 e fv w B b A.drew ps g o :=
  ⟨h.1, h.2.1, h.2.2.1, h.2.2.2.1, h.2.2.2.2.1, ⟨h.2.2.2.2.2.os, h.2.2.2.2.2.tape, h.2.2.2.2.2.output, h.2.2.2.2.2.size, h.2.2.2.2.2.block⟩⟩
end Go.PS
namespace Go.Proofs.Yteadhnpmmpninaa
open Go.RowKit Go.PM Go.PS Go.Lib
attribute [local go_sem] Oper.semAt_some

set_option maxRecDepth 100000 in
set_option maxHeartbeats 4000000 in
theorem pass_c (g : Nat → Nat) (hg : Prm g) (b : Nat) (w : World) (hA : At w b 106 (gC g)) :
    Calls Try.prog 94 #[.pointer (some ⟨b, 0, none⟩)] w fun e w' => ∃ v', e = .returned v' ∧ w'.ownsRow w.heap.size 33 3 v' (swL (pas 8 g).1).length (scells (swL (pas 8 g).1)) ∧ At w' b 106 (gC (pas 8 g).2) ∧ w.grownBy w' (some b) := by
  have hbl := hA.lt
  have HP := Lib.hid (fun k hk => (pas_facts hg k hk).1)
  have HLE := Lib.hid (fun k hk => (pas_facts hg k hk).2.2.2.2)
  refine (callsIn_wide (n := 5)).1 ?_
  refine callsIn_of_wp_marks Try.func94 rfl trivial ?_ rfl
  simp only [Try.ntmps94, List.size_toArray, List.length_cons, List.length_nil, Nat.reduceAdd, Nat.reduceSub, Array.replicate_succ, Array.replicate_zero, List.push_toArray, List.append_toArray, List.nil_append, List.cons_append]
  gi_wp2
  obtain ⟨W0, hW0⟩ : ∃ W0 : World, W0 = (((w.alloc (.cells #[.pointer (some ⟨b, 0, none⟩)] 59)).alloc (.cells #[.slice none 0 0] 25)).alloc (.cells #[.func (.func 90) #[.pointer (some ⟨b, 0, none⟩)] #[]] 108)) := ⟨_, rfl⟩
  have hS0 : W0.heap.size = w.heap.size + 3 := by rw [hW0]; simp only [World.size_alloc]
  have hB0 : Below w.heap.size w W0 := by rw [hW0]; (repeat' (first | (with_reducible exact Below.refl _ _) | (with_reducible assumption) | (with_reducible refine Below.alloc ?_ ?_ _) | (with_reducible refine Below.drew ?_) | (with_reducible refine Below.setCell ?_ ?_ _) | (with_reducible exact Nat.le_refl _) | omega | ((repeat (first | rewrite [World.size_alloc] | rewrite [World.size_setCell] | rewrite [World.size_drew])); omega) | (simp; omega) | (simp; done)))
  have hI0 : SwW 59 25 108 106 33 (.func (.func 90) #[.pointer (some ⟨b, 0, none⟩)] #[]) w (W0.heap.size + 2) b W0 (pas 0 g).1 (pas 0 g).2 (.slice none 0 0) := by
    rw [hW0]
    refine ⟨((At.new _ _ _).alloc _).alloc _, ?_, ?_, ⟨rfl, .inl ⟨rfl, rfl⟩⟩, ((hA.alloc _).alloc _).alloc _, ?_⟩
    · have := (At.new (w.alloc (.cells #[.pointer (some ⟨b, 0, none⟩)] 59)) 25 #[.slice none 0 0]).alloc (.cells #[.func (.func 90) #[.pointer (some ⟨b, 0, none⟩)] #[]] 108)
      rwa [World.size_alloc] at this
    · have := At.new ((w.alloc (.cells #[.pointer (some ⟨b, 0, none⟩)] 59)).alloc (.cells #[.slice none 0 0] 25)) 108 #[.func (.func 90) #[.pointer (some ⟨b, 0, none⟩)] #[]]
      rwa [World.size_alloc, World.size_alloc] at this
    · rw [← hW0]; exact grown_below hB0 _
  rw [← hW0]
  clear hW0
  refine range_law (F := Fence.wide) (gf := 89) (lf := #[.int .i64 8]) (lb := #[]) rfl (by decide) rfl trivial (fun args w => rfl) (encs := fun p : Nat => #[.int .i64 p]) (xs := List.range 8)
    (below_iterN 8 (by decide) _ _ trivial rfl (by decide)) (fun _ => rfl)
    (fun pre W => ∃ o, SwW 59 25 108 106 33 (.func (.func 90) #[.pointer (some ⟨b, 0, none⟩)] #[]) w (W0.heap.size + 2) b W (pas pre.length g).1 (pas pre.length g).2 o)
    (fun _ _ _ => False) ?_ (fun _ => ownFrom_pure _ _) ?_ (fun p => { tmps := #[.pointer (some ⟨b, 0, none⟩), .pointer (some ⟨w.heap.size, 0, none⟩), .slice none 0 0, .pointer (some ⟨w.heap.size + 1, 0, none⟩), .pointer (some ⟨w.heap.size + 1 + 1, 0, none⟩), .int .i64 p, .pointer (some ⟨b, 0, none⟩), .func (.func 90) #[.pointer (some ⟨b, 0, none⟩)] #[], .func (.func 89) #[.int .i64 8] #[], .int .i64 p, undef, undef, undef, undef, undef, undef, undef, undef, undef, undef, undef, undef], defers := [] }) ?_ ?_ ?_ ?_
  · rintro s A A' row ⟨o, h⟩ hg hr
    exact ⟨o, h.turn hg (fun r e => ⟨by have := (hr r e).1; omega, (hr r e).2⟩)⟩
  · exact ⟨_, hI0⟩
  · intro l p W Kc hK
    gi_wp2
    exact hK
  · clear hI0
    rintro l pre p W ⟨o, hI⟩ hp hsz
    have hpx : p < 8 ∧ pre.length = p := by
      obtain ⟨t, ht⟩ := hp
      have h1 := congrArg List.length ht
      simp at h1
      have h2 : (List.range 8)[pre.length]? = some p := by rw [← ht]; simp
      have h3 : pre.length < 8 := by omega
      rw [List.getElem?_range h3] at h2
      have := Option.some.inj h2
      omega
    obtain ⟨hp8, hl⟩ := hpx
    rw [hl] at hI
    have HL : Hid ((pre ++ [p]).length = p + 1) := by show _ = _; simp [hl]
    have hPy := Lib.hid (pas_yes (k := p) (g := g))
    have hPn := Lib.hid (pas_no (k := p) (g := g))
    have HLN := HLE.out p (by omega)
    obtain ⟨nx, hnx⟩ : ∃ nx, nx = pas (p + 1) g := ⟨_, rfl⟩
    have HA1 : Hid (pas (p + 1) g = nx) := hnx.symm
    rw [← hnx] at hPy hPn
    clear hnx
    generalize hps0 : (pas p g).1 = ps0 at *
    generalize hg00 : (pas p g).2 = g0 at *
    have hII := hI
    obtain ⟨h1, h2, h3, h4, h5, h6⟩ := hI
    have c1 : W.cell? ⟨w.heap.size, 0, none⟩ = some (.pointer (some ⟨b, 0, none⟩)) := h1.cell 0
    have hbl1 := h1.lt
    have HH := Lib.hid (descends_c g0 b p hp8 W h5)
    have hdd : dsc g0 p = decide (g0 (p + 1) < g0 p) := rfl
    by_cases hd : g0 (p + 1) < g0 p
    · have hdt : dsc g0 p = true := by rw [hdd]; simpa using hd
      rw [hdt] at HH
      have hnxe := hPy.out hd
      have hSS := hII.drew
      have HSWAP := Lib.hid (swap_c g0 b p (p + 1) (by omega) (by omega) (by omega) W.drew.drew h5)
      have c2 : W.drew.drew.cell? ⟨w.heap.size + 1, 0, none⟩ = some o := h2.cell 0
      have c3 : W.drew.drew.cell? ⟨w.heap.size + 1 + 1, 0, none⟩ = some (.func (.func 90) #[.pointer (some ⟨b, 0, none⟩)] #[]) := h3.cell 0
      have hz6 := h6.size
      have l2 := h2.lt
      have l3 := h3.lt
      have HN1 : Hid (nx.1 = ps0 ++ [(p, p + 1)]) := by show _ = _; rw [hnxe]
      have HN2 : Hid (nx.2 = swp g0 p (p + 1)) := by show _ = _; rw [hnxe]
      have i4 : IntKind.i64.wrap ((p : Int) + 1) = ((p + 1 : Nat) : Int) := by rw [IntWalk.i64_in _ ⟨by omega, by omega⟩]; omega
      clear hnxe hdt hdd hd h1 h2 h3 h5 hPy hPn hps0 hg00
      generalize hn1 : p + 1 = n1 at *
      have HNN := Lib.hid hn1
      clear hn1
      generalize swp g0 p n1 = g2 at *
      gi_wp2_with fail
      refine ⟨trivial, ?_⟩
      refine CallsIn.inRound l (callsIn_wide.2 (HH.out.mono ?_))
      rintro e wq ⟨rfl, rfl⟩
      gi_wp2
      refine region_late2_inRound (F := Fence.wide) (C := fun w' => w' = W.drew.drew) (D := fun w' => w'.cell? ⟨w.heap.size + 1, 0, none⟩ = some o) 5 2 rfl (by kernel_rfl) (by kernel_rfl) (by kernel_rfl) _ (by rfl) (by simp) o (fun _ _ _ h => h) (yieldsD_load (by rfl) _ _ (by rfl) _ Try.underlying25 _ (by rfl) o) (fun w' hw => by subst hw; exact c2) rfl ?_
      simp only [List.take_succ_cons, List.take_zero, List.drop_succ_cons, List.drop_zero, Nat.reduceSub, Nat.reduceAdd]
      simp only [Act.put, List.setIfInBounds_toArray, List.set_cons_succ, List.set_cons_zero]
      gi_big_quiet_step (fail)
      gi_big_quiet_step (fail)
      gi_big_quiet_step (fail)
      gi_big_quiet_step (fail)
      refine wpQuietIn_nil ?_
      intro w' hw'
      subst hw'
      refine ⟨c2, op_k (fun K hK => ?_)⟩
      go_simp
      refine ⟨trivial, callsIn_wide.2 (HSWAP.out.mono ?_)⟩
      rintro e w3 ⟨rfl, hA3, hg3⟩
      refine hK _ _ ?_
      clear hK K
      have d2 : w3.cell? ⟨w.heap.size + 1, 0, none⟩ = some o := hg3.cell c2 (by show some (w.heap.size + 1) ≠ some b; intro e; cases e; omega)
      have hz3 := hg3.size
      refine ⟨d2, ?_⟩
      refine sliceIn_st (.tmp 18) rfl 1 (nm p) (nm n1) (by rfl) ?_
      have hal : Below w3.heap.size w3 (w3.alloc (.cells #[.int .i64 1, .string (nm p), .string (nm n1)] 33)) := (Below.refl _ _).alloc (Nat.le_refl _) _
      have hzd : W.drew.drew.heap.size = W.heap.size := rfl
      have l2d : w.heap.size + 1 < w3.heap.size := by omega
      refine ⟨(hal.cell (p := ⟨w.heap.size + 1, 0, none⟩) l2d).trans d2, ?_⟩
      have hbe := own_block_ge h4
      have h4d : W.drew.drew.ownsRow (W0.heap.size + 2) 33 3 o (swL ps0).length (scells (swL ps0)) := h4
      have h4a := own_keep (own_grown h4d hg3 (.inl fun e => by have := hbe b e; omega)) hal
      refine listIn_st rfl (.tmp 13) (.tmp 19) rfl (W0.heap.size + 2) o (swL ps0) (1, nm p, nm n1) ⟨w3.heap.size, 0, none⟩ 1 (by rfl) (by rfl) h4a (three_new w3 _ _ _ _) (by rw [swL_len]; omega) (by simp; omega) ?_
      intro o' W5 hown5 hgrow5
      have hown5' : W5.ownsRow (W0.heap.size + 2) 33 3 o' (swL (ps0 ++ [(p, n1)])).length (scells (swL (ps0 ++ [(p, n1)]))) := by rw [swL_app]; exact hown5
      obtain ⟨k2, hS5, hKO5⟩ := SwW.step (by decide) (by decide) (by decide) (by decide) hSS hbl (by omega) hA3 hg3 hown5' hgrow5
      have d3 := k2.cell 0
      have d4 := k2.frozen 0
      have l5 := k2.lt
      have hKF := ((KeepsOthers.drew W).trans hKO5)
      have FIN : Hid (∃ o, SwW 59 25 108 106 33 (.func (.func 90) #[.pointer (some ⟨b, 0, none⟩)] #[]) w (W0.heap.size + 2) b (W5.setCell ⟨w.heap.size + 1, 0, none⟩ o') (pas (pre ++ [p]).length g).1 (pas (pre ++ [p]).length g).2 o) := by
        show ∃ o, _
        rw [HL.out, HA1.out, HN1.out, HN2.out]
        exact ⟨_, hS5⟩
      rw [show (swL ps0 ++ [((1, nm p, nm n1) : St)]).length = (swL ps0).length + 1 by simp] at hown5
      obtain ⟨A5, cap5, rfl, _⟩ := Rd.of_own hown5
      clear hS5 hKO5 hown5 hown5' hgrow5 h4d h4a hal d2 c2 c3 hA3 hg3 h4 h6 hSS HSWAP hz3 k2 hII
      gi_wp2
      exact ⟨hKF.from _, KeepsIn.zero hKF.size, FIN.out⟩
    · have hdt : dsc g0 p = false := by rw [hdd]; simpa using hd
      rw [hdt] at HH
      have hnxe := hPn.out hd
      have hSS := hII.drew
      have FIN : Hid (∃ o, SwW 59 25 108 106 33 (.func (.func 90) #[.pointer (some ⟨b, 0, none⟩)] #[]) w (W0.heap.size + 2) b W.drew (pas (pre ++ [p]).length g).1 (pas (pre ++ [p]).length g).2 o) := by
        show ∃ o, _
        rw [HL.out, HA1.out, hnxe, hps0, hg00]
        exact ⟨_, hSS⟩
      clear hnxe hdt hdd hd h1 h2 h3 h4 h5 h6 hSS hII
      gi_wp2_with fail
      refine ⟨trivial, ?_⟩
      refine CallsIn.inRound l (callsIn_wide.2 (HH.out.mono ?_))
      rintro e wq ⟨rfl, rfl⟩
      gi_wp2
      exact ⟨(KeepsOthers.drew W).from _, KeepsIn.zero (Nat.le_refl _), FIN.out⟩
  · intro D W hD hI hd
    obtain ⟨o, h1, h2, h3, h4, h5, h6⟩ := hI
    have c3 : W.cell? ⟨w.heap.size + 1, 0, none⟩ = some o := h2.cell 0
    have hDD : w.heap.size + 3 ≤ D := by omega
    clear h1 h2 h3 hI0
    gi_wp2
    refine ⟨by simp, .inl ⟨D, _, rfl, run_takeDeferred hd, ?_⟩⟩
    refine ⟨_, results_tmp rfl _ _ _, _, rfl, own_more (row_turn h4 (grownBy_putObj' W D _) (fun r e => by cases e; exact ⟨_, hd, rfl⟩)) (by omega), (World.putObj_heap_other (by omega)).trans h5, ?_⟩
    refine ⟨h6.os, h6.tape, h6.output, by simp [World.putObj]; exact h6.size, fun i hi hne => ?_⟩
    rw [World.putObj_heap_other (by omega)]
    exact h6.block i hi hne
  · intro _ _ _ _ _ _ hf
    exact hf.elim
end Go.Proofs.Yteadhnpmmpninaa
namespace Go.PM
section
variable {F : Fence} {n : Nat} {P : Program} {b : Frame} {a : Act} {k : List Item} {cs : List Frame} {w : World} {Q : Exit → Act → World → Prop}
theorem stepR_scope {c : Code} : step P (lone (b.atR a (.code (.scope c) :: k)) cs w) = .next (lone (b.atR a (.code c :: .inScope c :: k)) cs w) :=
  step_lone_go (by simp [stepG, stepG.exec, Frame.atR])
theorem stepR_inScope {c : Code} : step P (lone (b.atR a (.inScope c :: k)) cs w) = .next (lone (b.atR a k) cs w) :=
  step_lone_go (by simp [stepG, stepG.exec, Frame.atR])
/-- a scope through which the run goes without a goto, inside a fence -/
theorem wpIn_scope {c : Code} (h : c.wpIn F n P (Exit.noGoto Q) a w) : (Code.scope c).wpIn F n P Q a w := by
  intro b k cs hro hb hr
  have h0 : (lone (b.atR a (.code (.scope c) :: k)) cs w).fenced P F := fenced_calm hb hr rfl
  obtain ⟨e, a₁, w₁, hq, harr⟩ := h b (.inScope c :: k) cs hro hb hr
  cases e with
  | normal => exact ⟨.normal, a₁, w₁, hq, .head h0 stepR_scope (StepsIn.trans harr (.one (fenced_calm hb hr rfl) stepR_inScope))⟩
  | exit id' =>
    have hx : exitTo id' (.inScope c :: k) = exitTo id' k := by simp [exitTo]
    exact ⟨.exit id', a₁, w₁, hq, fun k' hk => .head h0 stepR_scope (harr.1 k' (by rw [hx]; exact hk)),
      fun hr' hk => let ⟨k₁, h1, h2⟩ := harr.2 hr' (by rw [hx]; exact hk); ⟨k₁, h1, .head h0 stepR_scope h2⟩⟩
  | goto l => exact hq.elim
  | ret => exact ⟨_, a₁, w₁, hq, .of_steps (.one h0 stepR_scope) harr⟩
  | panic ch => exact ⟨_, a₁, w₁, hq, .of_steps (.one h0 stepR_scope) harr⟩
  | outgrown => exact ⟨_, a₁, w₁, hq, .of_steps (.one h0 stepR_scope) harr⟩
end
end Go.PM
namespace Go.PS
open Go.PM Go.RowKit
/-- what going through neighbours holds -/
def NbW (t1 t2 t4 e : TypeId) (w : World) (B b : Nat) (A : World) (ps : List (Nat × Nat)) (g : Nat → Nat) (o : Value) : Prop :=
  At A w.heap.size t1 #[.pointer (some ⟨b, 0, none⟩)] ∧ At A (w.heap.size + 1) t2 #[o] ∧ A.ownsRow B e 3 o (swL ps).length (scells (swL ps)) ∧ At A b t4 (gC g) ∧ w.grownBy A (some b)
theorem NbW.turn {t1 t2 t4 e : TypeId} {w : World} {B b : Nat} {A A' : World} {ps : List (Nat × Nat)} {g : Nat → Nat} {o : Value} {row : Option Nat} (h : NbW t1 t2 t4 e w B b A ps g o) (hg : A.grownBy A' row) (hr : ∀ r, row = some r → w.heap.size ≤ r ∧ ∃ ob : Obj, A.heap[r]? = some ob ∧ ob.isCells = false) : NbW t1 t2 t4 e w B b A' ps g o := by
  obtain ⟨h1, h2, h4, h5, h6⟩ := h
  refine ⟨at_turn h1 hg (fun r e => (hr r e).2), at_turn h2 hg (fun r e => (hr r e).2), row_turn h4 hg (fun r e => (hr r e).2), at_turn h5 hg (fun r e => (hr r e).2), ?_⟩
  refine ⟨hg.os.trans h6.os, hg.tape.trans h6.tape, hg.output.trans h6.output, Nat.le_trans h6.size hg.size, fun i hi hne => ?_⟩
  rw [hg.block i (by have := h6.size; omega) (fun e => by have := (hr i e.symm).1; omega)]
  exact h6.block i hi hne
theorem NbW.drew {t1 t2 t4 e : TypeId} {w : World} {B b : Nat} {A : World} {ps : List (Nat × Nat)} {g : Nat → Nat} {o : Value} (h : NbW t1 t2 t4 e w B b A ps g o) : NbW t1 t2 t4 e w B b A.drew ps g o :=
  ⟨h.1, h.2.1, h.2.2.1, h.2.2.2.1, ⟨h.2.2.2.2.os, h.2.2.2.2.tape, h.2.2.2.2.output, h.2.2.2.2.size, h.2.2.2.2.block⟩⟩
theorem NbW.step {t1 t2 t4 e : TypeId} (he1 : e ≠ t1) (he2 : e ≠ t2) (he4 : e ≠ t4) {w : World} {B b : Nat} {A A3 W5 : World} {ps qs : List (Nat × Nat)} {g g2 : Nat → Nat} {o o' : Value}
    (h : NbW t1 t2 t4 e w B b A ps g o) (hb : b < w.heap.size) (hB : w.heap.size ≤ B) (hs0 : w.heap.size + 2 ≤ A.heap.size) (hA3 : At A3 b t4 (gC g2)) (hg3 : A.drew.grownBy A3 (some b))
    (hown5 : W5.ownsRow B e 3 o' (swL (ps ++ qs)).length (scells (swL (ps ++ qs)))) (hgrow5 : A3.grownBy W5 o.ownBlock) :
    At W5 (w.heap.size + 1) t2 #[o] ∧ NbW t1 t2 t4 e w B b (W5.setCell ⟨w.heap.size + 1, 0, none⟩ o') (ps ++ qs) g2 o' ∧ KeepsOthers A (W5.setCell ⟨w.heap.size + 1, 0, none⟩ o') := by
  obtain ⟨h1, h2, h4, h5, h6⟩ := h
  have hsz := h6.size
  have g1 : At A.drew w.heap.size t1 #[.pointer (some ⟨b, 0, none⟩)] := h1
  have g2' : At A.drew (w.heap.size + 1) t2 #[o] := h2
  have g4 : A.drew.ownsRow B e 3 o (swL ps).length (scells (swL ps)) := h4
  have k1 := at_grown' g1 hg3 (fun e => by cases e; omega)
  have k2 := at_grown' g2' hg3 (fun e => by cases e; omega)
  have hbe := own_block_ge h4
  have k4 := own_grown g4 hg3 (.inl fun e => by have := hbe b e; omega)
  have m1 := at_grown' k1 hgrow5 (box_apart k4 k1 he1)
  have m2 := at_grown' k2 hgrow5 (box_apart k4 k2 he2)
  have m5 := at_grown' hA3 hgrow5 (box_apart k4 hA3 he4)
  have hs5 := grownBy_setCell' W5 (w.heap.size + 1) o'
  have hne5 := box_apart hown5 m2 he2
  refine ⟨m2, ⟨at_grown' m1 hs5 (by simp), m2.set 0 _, hown5.kept hs5 (.inr hne5.symm), at_grown' m5 hs5 (fun e => by cases e; omega), ?_⟩, ?_⟩
  · have hz3 := hg3.size
    have hz5 := hgrow5.size
    have hzd : A.drew.heap.size = A.heap.size := rfl
    refine ⟨hs5.os.trans (hgrow5.os.trans (hg3.os.trans h6.os)), hs5.tape.trans (hgrow5.tape.trans (hg3.tape.trans h6.tape)), hs5.output.trans (hgrow5.output.trans (hg3.output.trans h6.output)), by have := hs5.size; omega, fun i hi hne => ?_⟩
    rw [hs5.block i (by omega) (fun e => by cases e; omega), hgrow5.block i (by omega) (fun e => by have := hbe i e.symm; omega), hg3.block i (by omega) hne]
    exact h6.block i hi hne
  · have q1 : KeepsOthers A A3 := (KeepsOthers.drew A).trans (KeepsOthers.of_grownBy hg3 (at_cells (w := A.drew) h5))
    exact (q1.trans (KeepsOthers.of_grownBy hgrow5 (own_cells k4))).trans (KeepsOthers.setCell _ _ _)
/-- the marks that loops over functions leave -/
def dfr (D : Nat) : Deferred := { target := .collected D, args := #[] }
def Marks (w : World) (ds : List Nat) (A : World) : Prop := ds.Nodup ∧ ∀ D ∈ ds, w.heap.size + 2 ≤ D ∧ A.heap[D]? = some (.deferred (some []))
theorem Marks.keep {w : World} {ds : List Nat} {A A' : World} (h : Marks w ds A) (hk : KeepsOthers A A') : Marks w ds A' :=
  ⟨h.1, fun D hD => ⟨(h.2 D hD).1, hk.same D _ (h.2 D hD).2 rfl⟩⟩
theorem Marks.turn {w : World} {ds : List Nat} {A A' : World} {row : Option Nat} {N : Nat} (h : Marks w ds A) (hlt : ∀ D ∈ ds, D < N) (hg : A.grownBy A' row) (hr : ∀ r, row = some r → N ≤ r) : Marks w ds A' :=
  ⟨h.1, fun D hD => ⟨(h.2 D hD).1, (hg.block D (Array.getElem?_eq_some_iff.1 (h.2 D hD).2).1 (fun e => by have := hr D e.symm; have := hlt D hD; omega)).trans (h.2 D hD).2⟩⟩
theorem Marks.lt {w : World} {ds : List Nat} {A : World} (h : Marks w ds A) : ∀ D ∈ ds, D < A.heap.size := fun D hD => (Array.getElem?_eq_some_iff.1 (h.2 D hD).2).1
theorem leaves_all {F : Fence} {n : Nat} {P : Program} {fn : Func} {tmps : Array Value} {R : Ending → World → Prop} : ∀ (ds : List Nat) (A : World), ds.Nodup → (∀ D ∈ ds, A.heap[D]? = some (.deferred (some []))) →
    (∀ A' : World, A'.os = A.os → A'.tape = A.tape → A'.output = A.output → A'.heap.size = A.heap.size → (∀ k, k ∉ ds → A'.heap[k]? = A.heap[k]?) → LeavesInM F n P fn tmps R [] .returning A') → LeavesInM F n P fn tmps R (ds.map dfr) .returning A
  | [], A, _, _, h => h A rfl rfl rfl rfl (fun _ _ => rfl)
  | D :: ds, A, hn, hD, h => by
    rw [List.nodup_cons] at hn
    refine ⟨by simp, .inl ⟨D, _, rfl, run_takeDeferred (hD D (by simp)), ?_⟩⟩
    refine leaves_all ds _ hn.2 (fun E hE => ?_) (fun A' h1 h2 h3 h4 h5 => h A' h1 h2 h3 (by rw [h4]; simp [World.putObj]) fun k hk => ?_)
    · rw [World.putObj_heap_other (fun e => hn.1 (by rw [← e]; exact hE))]
      exact hD E (by simp [hE])
    · rw [List.mem_cons] at hk
      rw [h5 k (fun hk2 => hk (.inr hk2)), World.putObj_heap_other (fun e => hk (.inl e))]
theorem own_same {w w' : World} {base : Nat} {e : TypeId} {size n : Nat} {v : Value} {cs : List Value} (h : w.ownsRow base e size v n cs) (hs : ∀ (k : Nat) (ob : Obj), w.heap[k]? = some ob → ob.isCells = true → w'.heap[k]? = some ob) : w'.ownsRow base e size v n cs := by
  refine ⟨h.1, ?_⟩
  rcases h.2 with h' | ⟨g, cap, cur, rfl, hbg, hg, hr⟩
  · exact .inl h'
  · exact .inr ⟨g, cap, cur, rfl, hbg, hs g _ hg rfl, hr⟩
/-- a round of going through neighbours: k swaps or fewer are left -/
def NbR (t1 t2 t4 e : TypeId) (w : World) (B b : Nat) (tot : List (Nat × Nat)) (k : Nat) (a : Act) (A : World) : Prop :=
  ∃ (ps : List (Nat × Nat)) (g : Nat → Nat) (o u : Value) (ds : List Nat), a = { tmps := #[.pointer (some ⟨b, 0, none⟩), .pointer (some ⟨w.heap.size, 0, none⟩), .slice none 0 0, .pointer (some ⟨w.heap.size + 1, 0, none⟩), undef, u, undef, undef, undef, undef, undef, undef, undef, undef, undef], defers := ds.map dfr } ∧
    ps ++ nbF k g = tot ∧ Prm g ∧ invG g ≤ k ∧ NbW t1 t2 t4 e w B b A ps g o ∧ Marks w ds A ∧ w.heap.size + 2 ≤ A.heap.size
end Go.PS
namespace Go.Proofs.Yteadhnpmmpninaa
open Go.RowKit Go.PM Go.PS Go.Lib
attribute [local go_sem] Oper.semAt_some

set_option maxRecDepth 100000 in
set_option maxHeartbeats 4000000 in
theorem neighbourSwaps_c (g : Nat → Nat) (hg : Prm g) (b : Nat) (w : World) (hA : At w b 106 (gC g)) :
    Calls Try.prog 49 #[.pointer (some ⟨b, 0, none⟩)] w fun e w' => ∃ v', e = .returned v' ∧ w'.ownsRow w.heap.size 33 3 v' (swL (nbF 36 g)).length (scells (swL (nbF 36 g))) ∧ w.grownBy w' (some b) := by
  have hbl := hA.lt
  have HLT := Lib.hid (show (nbF 36 g).length ≤ 36 by have := (nbF_facts 36 g hg (invG_le g)).1; have := invG_le g; omega)
  refine (callsIn_wide (n := 5)).1 ?_
  refine callsIn_of_wp_marks Try.func49 rfl trivial ?_ rfl
  simp only [Try.ntmps49, List.size_toArray, List.length_cons, List.length_nil, Nat.reduceAdd, Nat.reduceSub, Array.replicate_succ, Array.replicate_zero, List.push_toArray, List.append_toArray, List.nil_append, List.cons_append]
  gi_wp2
  refine wpIn_scope ?_
  gi_wp2
  have hI0 : NbR 59 25 106 33 w (w.heap.size + 2) b (nbF 36 g) 36 { tmps := #[.pointer (some ⟨b, 0, none⟩), .pointer (some ⟨w.heap.size, 0, none⟩), .slice none 0 0, .pointer (some ⟨w.heap.size + 1, 0, none⟩), undef, undef, undef, undef, undef, undef, undef, undef, undef, undef, undef], defers := [] } ((w.alloc (.cells #[.pointer (some ⟨b, 0, none⟩)] 59)).alloc (.cells #[.slice none 0 0] 25)) := by
    refine ⟨[], g, .slice none 0 0, undef, [], rfl, rfl, hg, invG_le g, ⟨(At.new _ _ _).alloc _, ?_, ⟨rfl, .inl ⟨rfl, rfl⟩⟩, (hA.alloc _).alloc _, ?_⟩, ⟨by simp, by simp⟩, by simp⟩
    · have := At.new (w.alloc (.cells #[.pointer (some ⟨b, 0, none⟩)] 59)) 25 #[.slice none 0 0]
      rwa [World.size_alloc] at this
    · exact grown_below (((Below.refl w.heap.size w).alloc (Nat.le_refl _) _).alloc (by simp) _) _
  obtain ⟨tot, htt⟩ : ∃ tot, tot = nbF 36 g := ⟨_, rfl⟩
  have HTT : Hid (nbF 36 g = tot) := htt.symm
  rw [← htt] at hI0 HLT
  clear hA hg htt
  refine wpIn_label ?_
  gi_wp2
  refine wpIn_loop (fun a A => ∃ k, NbR 59 25 106 33 w (w.heap.size + 2) b tot k a A) (fun a A => PW.least (fun k => NbR 59 25 106 33 w (w.heap.size + 2) b tot k a A)) ⟨36, hI0⟩ ?_
  clear hI0
  rintro a A hrel
  obtain ⟨hru, _⟩ := PW.least_spec hrel
  generalize hkk : PW.least (fun k => NbR 59 25 106 33 w (w.heap.size + 2) b tot k a A) = kk at *
  have HKK := Lib.hid hkk
  clear hrel hkk
  obtain ⟨ps, g1, o1, u1, ds, rfl, htot, hP1, hinv, hW, hM, hs2⟩ := hru
  gi_wp2
  have hps : ps.length ≤ 36 := by
    have h1 := congrArg List.length htot
    rw [List.length_append] at h1
    have := HLT.out; omega
  have hpl8 : (pas 8 g1).1.length ≤ 8 := (pas_facts hP1 8 (Nat.le_refl _)).2.2.2.2
  refine range_law (F := Fence.wide) (gf := 89) (lf := #[.int .i64 8]) (lb := #[]) rfl (by decide) rfl trivial (fun args w => rfl) (encs := fun p : Nat => #[.int .i64 p]) (xs := List.range 8)
    (below_iterN 8 (by decide) _ _ trivial rfl (by decide)) (fun _ => rfl)
    (fun pre W => NbW 59 25 106 33 w (w.heap.size + 2) b W ps g1 o1 ∧ upTo g1 pre.length ∧ Marks w ds W ∧ w.heap.size + 2 ≤ W.heap.size)
    (fun c pre W => c = .exit 1 ∧ (∃ p, p < 8 ∧ g1 (p + 1) < g1 p) ∧ (∃ o', NbW 59 25 106 33 w (w.heap.size + 2) b W (ps ++ (pas 8 g1).1) (pas 8 g1).2 o') ∧ Marks w ds W ∧ w.heap.size + 2 ≤ W.heap.size) ?_ ?_ ?_ (fun p => { tmps := #[.pointer (some ⟨b, 0, none⟩), .pointer (some ⟨w.heap.size, 0, none⟩), .slice none 0 0, .pointer (some ⟨w.heap.size + 1, 0, none⟩), .int .i64 p, .func (.func 89) #[.int .i64 8] #[], .int .i64 p, undef, undef, undef, undef, undef, undef, undef, undef], defers := [] }) ?_ ?_ ?_ ?_
  · rintro s A1 A2 row ⟨h1, h2, h3, h4⟩ hg hr
    exact ⟨h1.turn hg (fun r e => ⟨by have := (hr r e).1; omega, (hr r e).2⟩), h2, h3.turn hM.lt hg (fun r e => (hr r e).1), by have := hg.size; omega⟩
  · rintro c s A1 A2 row ⟨h0, hp, ⟨o', h1⟩, h3, h4⟩ hg hr
    exact ⟨h0, hp, ⟨o', h1.turn hg (fun r e => ⟨by have := (hr r e).1; omega, (hr r e).2⟩)⟩, h3.turn hM.lt hg (fun r e => (hr r e).1), by have := hg.size; omega⟩
  · exact ⟨hW, fun j hj => by simp at hj, hM, hs2⟩
  · intro l p W Kc hK
    gi_wp2
    exact hK
  · rintro l pre p W ⟨hI, hup, hMW, hsW⟩ hp hsz
    have hpx : p < 8 ∧ pre.length = p := by
      obtain ⟨t, ht⟩ := hp
      have h1 := congrArg List.length ht
      simp at h1
      have h2 : (List.range 8)[pre.length]? = some p := by rw [← ht]; simp
      have h3 : pre.length < 8 := by omega
      rw [List.getElem?_range h3] at h2
      have := Option.some.inj h2
      omega
    obtain ⟨hp8, hl⟩ := hpx
    have HL : Hid ((pre ++ [p]).length = p + 1) := by show _ = _; simp [hl]
    have hII := hI
    obtain ⟨h1, h2, h4, h5, h6⟩ := hI
    have c1 : W.cell? ⟨w.heap.size, 0, none⟩ = some (.pointer (some ⟨b, 0, none⟩)) := h1.cell 0
    have hbl1 := h1.lt
    have HH := Lib.hid (descends_c g1 b p hp8 W h5)
    have hdd : dsc g1 p = decide (g1 (p + 1) < g1 p) := rfl
    by_cases hd : g1 (p + 1) < g1 p
    · have hdt : dsc g1 p = true := by rw [hdd]; simpa using hd
      rw [hdt] at HH
      have hSS := hII.drew
      have HPASS := Lib.hid (pass_c g1 hP1 b W.drew.drew h5)
      have c2 : W.drew.drew.cell? ⟨w.heap.size + 1, 0, none⟩ = some o1 := h2.cell 0
      have c3 : W.drew.drew.cell? ⟨w.heap.size, 0, none⟩ = some (.pointer (some ⟨b, 0, none⟩)) := h1.cell 0
      have l2 := h2.lt
      have hdes : ∃ p, p < 8 ∧ g1 (p + 1) < g1 p := ⟨p, hp8, hd⟩
      have HDES := Lib.hid hdes
      clear hdes hdt hdd hd h1 h2 h5 hup
      gi_wp2_with fail
      refine ⟨trivial, ?_⟩
      refine CallsIn.inRound l (callsIn_wide.2 (HH.out.mono ?_))
      rintro e wq ⟨rfl, rfl⟩
      gi_wp2
      refine region_late2_inRound (F := Fence.wide) (C := fun w' => w' = W.drew.drew) (D := fun w' => w'.cell? ⟨w.heap.size + 1, 0, none⟩ = some o1) 2 1 rfl (by kernel_rfl) (by kernel_rfl) (by kernel_rfl) _ (by rfl) (by simp) o1 (fun _ _ _ h => h) (yieldsD_load (by rfl) _ _ (by rfl) _ Try.underlying25 _ (by rfl) o1) (fun w' hw => by subst hw; exact c2) rfl ?_
      simp only [List.take_succ_cons, List.take_zero, List.drop_succ_cons, List.drop_zero, Nat.reduceSub, Nat.reduceAdd]
      simp only [Act.put, List.setIfInBounds_toArray, List.set_cons_succ, List.set_cons_zero]
      gi_big_quiet_step (fail)
      refine wpQuietIn_nil ?_
      intro w' hw'
      subst hw'
      refine ⟨c2, op_k (fun K hK => ?_)⟩
      go_simp
      refine ⟨trivial, callsIn_wide.2 (HPASS.out.mono ?_)⟩
      rintro e w3 ⟨v3, rfl, hown3, hA3, hg3⟩
      refine hK _ _ ?_
      clear hK K
      have d2 : w3.cell? ⟨w.heap.size + 1, 0, none⟩ = some o1 := hg3.cell c2 (by show some (w.heap.size + 1) ≠ some b; intro e; cases e; omega)
      have hz3 := hg3.size
      refine ⟨d2, ?_⟩
      have hzd : W.drew.drew.heap.size = W.heap.size := rfl
      have l2d : w.heap.size + 1 < w3.heap.size := by omega
      have hbe := own_block_ge h4
      have h4d : W.drew.drew.ownsRow (w.heap.size + 2) 33 3 o1 (swL ps).length (scells (swL ps)) := h4
      have h4a := own_grown h4d hg3 (.inl fun e => by have := hbe b e; omega)
      refine listIn_rows rfl (.tmp 10) (.tmp 12) rfl (w.heap.size + 2) W.drew.drew.heap.size o1 v3 (swL ps) (swL (pas 8 g1).1) (by rfl) (by rfl) h4a hown3 (by rw [swL_len, swL_len]; omega) (by omega) ?_
      intro o' W5 hown5 hgrow5
      have hown5' : W5.ownsRow (w.heap.size + 2) 33 3 o' (swL (ps ++ (pas 8 g1).1)).length (scells (swL (ps ++ (pas 8 g1).1))) := by rw [swL_app]; exact hown5
      obtain ⟨k2, hS5, hKO5⟩ := NbW.step (by decide) (by decide) (by decide) hSS hbl (by omega) hsW hA3 hg3 hown5' hgrow5
      have d3 := k2.cell 0
      have d4 := k2.frozen 0
      have l5 := k2.lt
      have hKF := ((KeepsOthers.drew W).trans hKO5)
      have FIN : Hid ((∃ o2, NbW 59 25 106 33 w (w.heap.size + 2) b (W5.setCell ⟨w.heap.size + 1, 0, none⟩ o') (ps ++ (pas 8 g1).1) (pas 8 g1).2 o2) ∧ Marks w ds (W5.setCell ⟨w.heap.size + 1, 0, none⟩ o') ∧ w.heap.size + 2 ≤ (W5.setCell ⟨w.heap.size + 1, 0, none⟩ o').heap.size) :=
        ⟨⟨o', hS5⟩, hMW.keep hKF, Nat.le_trans hsW hKF.size⟩
      obtain ⟨LN, hLN⟩ : ∃ LN, LN = (swL ps ++ swL (pas 8 g1).1).length := ⟨_, rfl⟩
      rw [← hLN] at hown5
      obtain ⟨A5, cap5, rfl, _⟩ := Rd.of_own hown5
      clear hS5 hKO5 hown5 hown5' hgrow5 h4d h4a d2 c2 c3 hA3 hg3 h4 h6 hSS HPASS hz3 k2 hII hMW hM hW hLN hown3
      gi_wp2
      exact ⟨hKF.from _, rfl, HDES.out, FIN.out⟩
    · have hdt : dsc g1 p = false := by rw [hdd]; simpa using hd
      rw [hdt] at HH
      have FIN : Hid (NbW 59 25 106 33 w (w.heap.size + 2) b W.drew ps g1 o1 ∧ upTo g1 (pre ++ [p]).length ∧ Marks w ds W.drew ∧ w.heap.size + 2 ≤ W.drew.heap.size) := by
        refine ⟨hII.drew, ?_, hMW.keep (KeepsOthers.drew W), hsW⟩
        rw [HL.out]
        intro j hj
        by_cases e : j = p
        · subst e; exact hd
        · exact hup j (by omega)
      clear hdt hdd hd h1 h2 h4 h5 h6 hII hW hM hMW hup
      gi_wp2_with fail
      refine ⟨trivial, ?_⟩
      refine CallsIn.inRound l (callsIn_wide.2 (HH.out.mono ?_))
      rintro e wq ⟨rfl, rfl⟩
      gi_wp2
      exact ⟨(KeepsOthers.drew W).from _, KeepsIn.zero (Nat.le_refl _), FIN.out⟩
  · intro D W hD hI hd
    obtain ⟨hI, hup, hMW, hsW⟩ := hI
    obtain ⟨k1, k2, k3, k4, k5⟩ := hI
    have c3 : W.cell? ⟨w.heap.size + 1, 0, none⟩ = some o1 := k2.cell 0
    have hpt : ps = tot := by rw [nbF_stop kk hup] at htot; simpa using htot
    have hlt := hM.lt
    have hDn : D ∉ ds := fun h => by have := hlt D h; omega
    have HD : Hid ((D :: ds).Nodup ∧ ∀ E ∈ D :: ds, w.heap.size + 2 ≤ E ∧ W.heap[E]? = some (.deferred (some []))) := ⟨List.nodup_cons.2 ⟨hDn, hMW.1⟩, fun E hE => by
      rcases List.mem_cons.1 hE with rfl | hE
      · exact ⟨by omega, hd⟩
      · exact hMW.2 E hE⟩
    clear k1 k2 k4 hW hM htot hd hMW hlt hDn
    gi_wp2
    rw [Exit.noGoto_ret]
    refine leaves_all (D :: ds) W HD.out.1 (fun E hE => (HD.out.2 E hE).2) ?_
    intro A' e1 e2 e3 e4 e5
    refine ⟨_, results_tmp rfl _ _ _, o1, rfl, ?_, ?_⟩
    · rw [HTT.out, ← hpt]
      refine own_more (own_same k3 fun k ob hk hc => ?_) (by omega)
      rw [e5 k (fun hm => by have := (HD.out.2 k hm).2; rw [hk] at this; cases this; cases hc)]
      exact hk
    · refine ⟨e1.trans k5.os, e2.trans k5.tape, e3.trans k5.output, by rw [e4]; exact k5.size, fun i hi hne => ?_⟩
      rw [e5 i (fun hm => by have := (HD.out.2 i hm).1; omega)]
      exact k5.block i hi hne
  · rintro D c pre W hD hp ⟨rfl, hdes, ⟨o', hW'⟩, hMW, hsW⟩ hd
    obtain ⟨p, hp8, hdp⟩ := hdes
    obtain ⟨f1, f2, f3, f4, f5⟩ := pas_facts hP1 8 (Nat.le_refl _)
    have f6 := pas_some hp8 hdp
    obtain ⟨k, rfl⟩ : ∃ k, kk = k + 1 := ⟨kk - 1, by omega⟩
    have hlt := hM.lt
    have hDn : D ∉ ds := fun h => by have := hlt D h; omega
    have hR : NbR 59 25 106 33 w (w.heap.size + 2) b tot k { tmps := #[.pointer (some ⟨b, 0, none⟩), .pointer (some ⟨w.heap.size, 0, none⟩), .slice none 0 0, .pointer (some ⟨w.heap.size + 1, 0, none⟩), undef, .func (.func 89) #[.int .i64 8] #[], undef, undef, undef, undef, undef, undef, undef, undef, undef], defers := { target := .collected D, args := #[] } :: List.map dfr ds } W := by
      refine ⟨ps ++ (pas 8 g1).1, (pas 8 g1).2, o', _, D :: ds, rfl, by rw [← htot, nbF_go k hp8 hdp]; simp, f1, by omega, hW', ⟨List.nodup_cons.2 ⟨hDn, hMW.1⟩, fun E hE => ?_⟩, hsW⟩
      rcases List.mem_cons.1 hE with rfl | hE
      · exact ⟨by omega, hd⟩
      · exact hMW.2 E hE
    clear f1 f2 f3 f4 f5 f6 hDn hlt hMW hW' hW hM htot hd
    gi_wp2
    refine ⟨⟨k, hR⟩, ?_⟩
    have := (PW.least_spec (P := fun k => NbR 59 25 106 33 w (w.heap.size + 2) b tot k _ W) ⟨k, hR⟩).2 _ hR
    omega
end Go.Proofs.Yteadhnpmmpninaa
namespace Go.PS
open Go.PM Go.RowKit
theorem bkF_idx {f : Nat → ByteArray} (h : Exch (srcT f)) {q : Nat} (hq : q < 9) : isP (bkF f 9 q) = true ∧ pidx (bkF f 9 q) = invI (srcT f) q := by
  have h1 := h.inv hq
  have h2 := bkF_at h 9 (Nat.le_refl _) _ h1.1
  rw [h1.2, pidx_nm hq] at h2
  rw [h2]
  exact ⟨isP_nm h1.1, pidx_nm h1.1⟩
/-- the goals of the first k places are laid -/
def halfG (g : Nat → Nat) (k : Nat) : Nat → Nat := fun p => if p < k then g p else 0
theorem halfG_step (g : Nat → Nat) (k : Nat) : setN (halfG g k) k (g k) = halfG g (k + 1) := by
  funext x
  show (if x = k then g k else if x < k then g x else 0) = if x < k + 1 then g x else 0
  by_cases h1 : x = k
  · subst h1; rw [if_pos rfl, if_pos (by omega)]
  · rw [if_neg h1]
    by_cases h2 : x < k
    · rw [if_pos h2, if_pos (by omega)]
    · rw [if_neg h2, if_neg (by omega)]
theorem halfG_full (g : Nat → Nat) : gC (halfG g 9) = gC g := gC_congr fun p hp => by
  show (if p < 9 then g p else 0) = g p
  rw [if_pos hp]
end Go.PS
namespace Go.Proofs.Yteadhnpmmpninaa
open Go.RowKit Go.PM Go.PS Go.Lib
attribute [local go_sem] Oper.semAt_some

set_option maxRecDepth 100000 in
set_option maxHeartbeats 4000000 in
theorem permutationOf_c (f : Nat → ByteArray) (hE : Exch (srcT f)) (w : World) :
    Calls Try.prog 45 #[tabX f] w fun e w' => ∃ b, e = .returned (.pointer (some ⟨b, 0, none⟩)) ∧ At w' b 106 (gC (invI (srcT f))) ∧ w.heap.size ≤ b ∧ Below w.heap.size w w' := by
  have HU := Lib.hid (fun W => undone_c f hE W)
  have HB := Lib.hid (fun q hq => bkF_idx hE (q := q) hq)
  clear hE
  generalize bkF f 9 = bk at *
  generalize invI (srcT f) = g at *
  refine (callsIn_wide (n := 5)).1 ?_
  refine callsIn_of_wp_marks Try.func45 rfl trivial ?_ rfl
  simp only [Try.ntmps45, List.size_toArray, List.length_cons, List.length_nil, Nat.reduceAdd, Nat.reduceSub, Array.replicate_succ, Array.replicate_zero, List.push_toArray, List.append_toArray, List.nil_append, List.cons_append]
  have hA0 : At (w.alloc (.cells (tabC f) 56)) w.heap.size 56 (tabC f) := At.new _ _ _
  gi_wp2_with (refine ldIn_row rfl 56 (.tmp 1) rfl w.heap.size 56 (tabC f) (hA0.alloc _) (by rfl) 9 9 Try.underlying56 (by kernel_rfl) ?_; refine held ?_)
  unfold Held
  have hP0 : At ((w.alloc (.cells (tabC f) 56)).alloc (.cells (gC (fun _ => 0)) 106)) (w.heap.size + 1) 106 (gC (fun _ => 0)) := by
    have := At.new (w.alloc (.cells (tabC f) 56)) 106 (gC (fun _ => 0))
    rwa [World.size_alloc] at this
  have hB0 : Below w.heap.size w ((w.alloc (.cells (tabC f) 56)).alloc (.cells (gC (fun _ => 0)) 106)) := ((Below.refl _ _).alloc (Nat.le_refl _) _).alloc (by simp) _
  clear hA0
  gi_wp2_with fail
  refine ⟨trivial, callsIn_wide.2 ((HU.out _).mono ?_)⟩
  rintro e w1 ⟨rfl, hb1⟩
  have hP1 := hP0.keep hb1
  have hB1 := hB0.trans (hb1.mono hB0.size)
  have hs1 := hB1.size
  have hPl := hP1.lt
  clear hP0 hB0 hb1
  gi_wp2_with fail
  obtain ⟨W0, hW0⟩ : ∃ W0 : World, W0 = ((w1.alloc (.cells #[.pointer (some ⟨w.heap.size + 1, 0, none⟩)] 59)).alloc (.cells (tabA bk) 56)) := ⟨_, rfl⟩
  have hS0 : W0.heap.size = w1.heap.size + 2 := by rw [hW0]; simp only [World.size_alloc]
  have hB0 : Below w.heap.size w W0 := by rw [hW0]; exact (hB1.alloc hs1 _).alloc (by simp; omega) _
  have hA0 : At W0 w1.heap.size 59 #[.pointer (some ⟨w.heap.size + 1, 0, none⟩)] := by rw [hW0]; exact (At.new _ _ _).alloc _
  have hA1 : At W0 (w1.heap.size + 1) 56 (tabA bk) := by
    rw [hW0]; have := At.new (w1.alloc (.cells #[.pointer (some ⟨w.heap.size + 1, 0, none⟩)] 59)) 56 (tabA bk)
    rwa [World.size_alloc] at this
  have hA2 : At W0 (w.heap.size + 1) 106 (gC (halfG g 0)) := by
    rw [hW0, show halfG g 0 = fun _ => 0 by funext x; simp [halfG]]; exact (hP1.alloc _).alloc _
  rw [← hW0]
  clear hW0 hP1 hB1
  refine range_law (F := Fence.wide) (gf := 89) (lf := #[.int .i64 9]) (lb := #[]) rfl (by decide) rfl trivial (fun args w => rfl) (encs := fun p : Nat => #[.int .i64 p]) (xs := List.range 9)
    (below_iter _ _ trivial rfl (by decide)) (fun _ => rfl)
    (fun pre W => At W (w.heap.size + 1) 106 (gC (halfG g pre.length)) ∧ At W w1.heap.size 59 #[.pointer (some ⟨w.heap.size + 1, 0, none⟩)] ∧ At W (w1.heap.size + 1) 56 (tabA bk) ∧ Below w.heap.size w W)
    (fun _ _ _ => False) ?_ (fun _ => ownFrom_pure _ _) ?_ (fun p => { tmps := #[tabX f, .pointer (some ⟨w.heap.size, 0, none⟩), .pointer none, .pointer (some ⟨w1.heap.size, 0, none⟩), .pointer (some ⟨w1.heap.size + 1, 0, none⟩), .int .i64 p, .pointer (some ⟨w.heap.size + 1, 0, none⟩), .agg (tabC f), tabX bk, .func (.func 89) #[.int .i64 9] #[], .int .i64 p, undef, undef, undef, undef, undef, undef, undef, undef, undef, undef, undef, undef], defers := [] }) ?_ ?_ ?_ ?_
  · rintro s A A' row ⟨h1, h2, h3, h4⟩ hg hr
    exact ⟨at_turn h1 hg (fun r e => (hr r e).2), at_turn h2 hg (fun r e => (hr r e).2), at_turn h3 hg (fun r e => (hr r e).2), h4.trans (below_grown hg h4.size (fun g e => by have := (hr g e).1; have := hB0.size; omega))⟩
  · exact ⟨hA2, hA0, hA1, hB0⟩
  · intro l p W Kc hK
    gi_wp2
    exact hK
  · clear hA0 hA1 hA2
    rintro l pre p W ⟨h1, h2, h3, h4⟩ hp hsz
    obtain ⟨hl, hp9⟩ := pre_len pre p hp
    rw [hl] at h1
    have HL : Hid ((pre ++ [p]).length = p + 1) := by show _ = _; simp [hl]
    obtain ⟨b1, b2⟩ := HB.out p hp9
    have HST := Lib.hid (halfG_step g p)
    have HSET := Lib.hid (gC_set (halfG g p) p hp9 (g p))
    have HIX := fun W' => indexOf_yes (bk p) b1 W'
    rw [b2] at HIX
    have hz4 := h4.size
    have l1 := h1.lt
    have l2 := h2.lt
    have l3 := h3.lt
    have i0 : (0 : Int) ≤ (p : Int) := by omega
    have i1 : (p : Int) < 9 := by omega
    have c2 : W.drew.cell? ⟨w1.heap.size, 0, none⟩ = some (.pointer (some ⟨w.heap.size + 1, 0, none⟩)) := h2.cell 0
    have c3 : W.drew.cell? ⟨w1.heap.size + 1, p, none⟩ = some (.string (bk p)) := (h3.cell p).trans (tabC_at bk p hp9)
    have c1 : W.drew.cell? ⟨w.heap.size + 1, p, none⟩ = some (.int .i64 (halfG g p p : Nat)) := (h1.cell p).trans (gC_at _ p hp9)
    have f1 : W.drew.frozen? ⟨w.heap.size + 1, p, none⟩ = false := h1.frozen p
    have fin : KeepsFrom W0.heap.size W (W.drew.setCell ⟨w.heap.size + 1, p, none⟩ (.int .i64 (g p : Nat))) ∧ KeepsIn (W0.heap.size + 2) 0 W (W.drew.setCell ⟨w.heap.size + 1, p, none⟩ (.int .i64 (g p : Nat))) ∧
        At (W.drew.setCell ⟨w.heap.size + 1, p, none⟩ (.int .i64 (g p : Nat))) (w.heap.size + 1) 106 (gC (halfG g (pre ++ [p]).length)) ∧
        At (W.drew.setCell ⟨w.heap.size + 1, p, none⟩ (.int .i64 (g p : Nat))) w1.heap.size 59 #[.pointer (some ⟨w.heap.size + 1, 0, none⟩)] ∧
        At (W.drew.setCell ⟨w.heap.size + 1, p, none⟩ (.int .i64 (g p : Nat))) (w1.heap.size + 1) 56 (tabA bk) ∧ Below w.heap.size w (W.drew.setCell ⟨w.heap.size + 1, p, none⟩ (.int .i64 (g p : Nat))) := by
      refine ⟨((KeepsOthers.drew W).trans (KeepsOthers.setCell _ _ _)).from _, KeepsIn.zero (by simp [World.size_setCell]), ?_, At.far (w := W.drew) h2 (by show w1.heap.size ≠ w.heap.size + 1; omega) _, At.far (w := W.drew) h3 (by show w1.heap.size + 1 ≠ w.heap.size + 1; omega) _, h4.drew.setCell (by show w.heap.size ≤ w.heap.size + 1; omega) _⟩
      rw [HL.out]
      have := At.set (w := W.drew) h1 p (.int .i64 (g p : Nat))
      rw [HSET.out, HST.out] at this
      exact this
    have FIN := Lib.hid fin
    clear fin h1 h2 h3 b1 b2 HL HB HST HSET
    generalize halfG g p p = oldv at *
    generalize g p = j at *
    generalize bk p = s at *
    gi_wp2
    refine region_inRound (F := Fence.wide) rfl (by kernel_rfl) (by kernel_rfl) ?_
    (refine wpAnyIn_take (i := 1) (v := ?_) rfl rfl (by kernel_rfl) (by kernel_rfl) (by kernel_rfl) (fun _ _ _ h => h) ⟨Or.inl ⟨by rfl, by intro w0; go_simp; try with_reducible rfl⟩, fun _ => rfl⟩ ?_)
    (refine wpAnyIn_take (i := 2) (v := ?_) rfl rfl (by kernel_rfl) (by kernel_rfl) (by kernel_rfl) (fun _ _ _ h => h) ⟨Or.inl ⟨by rfl, by intro w0; go_simp; try with_reducible rfl⟩, fun _ => rfl⟩ ?_)
    (refine wpAnyIn_take (i := 3) (v := ?_) rfl rfl (by kernel_rfl) (by kernel_rfl) (by kernel_rfl) (fun _ _ _ h => h) ⟨Or.inl ⟨by rfl, by intro w0; go_simp; try with_reducible rfl⟩, fun _ => rfl⟩ ?_)
    (refine wpAnyIn_ready (rs := [0, 4]) (by kernel_rfl) (by simp) ?_; refine AllReadyIn.cons rfl (fun Kr hKr => ?_) (AllReadyIn.cons rfl (fun Kr hKr => ?_) (AllReadyIn.nil)))
    · (go_simp; refine hKr _ _ ?_; clear hKr Kr)
      (refine wpAnyIn_take (i := 9) (v := ?_) rfl rfl (by kernel_rfl) (by kernel_rfl) (by kernel_rfl) (fun _ _ _ h => h) ⟨Or.inl ⟨by rfl, by intro w0; go_simp; try with_reducible rfl⟩, fun _ => rfl⟩ ?_)
      (refine wpAnyIn_ready (rs := [4]) (by kernel_rfl) (by simp) ?_; refine AllReadyIn.cons rfl (fun Kr hKr => ?_) (AllReadyIn.nil))
      (go_simp; refine hKr _ _ ?_; clear hKr Kr)
      (refine wpAnyIn_ready (rs := [5]) (by kernel_rfl) (by simp) ?_; refine AllReadyIn.cons rfl (fun Kr hKr => ?_) (AllReadyIn.nil))
      (go_simp; refine ⟨trivial, callsIn_wide.2 ((HIX _).mono ?_)⟩; rintro e wq ⟨rfl, rfl⟩; refine hKr _ _ ?_; clear hKr Kr)
      (refine wpAnyIn_take (i := 6) (v := ?_) rfl rfl (by kernel_rfl) (by kernel_rfl) (by kernel_rfl) (fun _ _ _ h => h) ⟨Or.inl ⟨by rfl, by intro w0; go_simp; try with_reducible rfl⟩, fun _ => rfl⟩ ?_)
      (refine wpAnyIn_take (i := 7) (v := ?_) rfl rfl (by kernel_rfl) (by kernel_rfl) (by kernel_rfl) (fun _ _ _ h => h) ⟨Or.inl ⟨by rfl, by intro w0; go_simp; try with_reducible rfl⟩, fun _ => rfl⟩ ?_)
      (refine wpAnyIn_take (i := 8) (v := ?_) rfl rfl (by kernel_rfl) (by kernel_rfl) (by kernel_rfl) (fun _ _ _ h => h) ⟨Or.inl ⟨by rfl, by intro w0; go_simp; try with_reducible rfl⟩, fun _ => rfl⟩ ?_)
      (refine wpAnyIn_take (i := 10) (v := ?_) rfl rfl (by kernel_rfl) (by kernel_rfl) (by kernel_rfl) (fun _ _ _ h => h) ⟨Or.inl ⟨by rfl, by intro w0; go_simp; try with_reducible rfl⟩, fun _ => rfl⟩ ?_)
      (refine wpAnyIn_ready (rs := [11]) (by kernel_rfl) (by simp) ?_; refine AllReadyIn.cons rfl (fun Kr hKr => ?_) (AllReadyIn.nil))
      (go_simp; refine hKr _ _ ?_; clear hKr Kr)
      refine wpAnyIn_done (by kernel_rfl) ?_ _
      exact FIN.out
    · (go_simp; refine hKr _ _ ?_; clear hKr Kr)
      (refine wpAnyIn_ready (rs := [0, 5]) (by kernel_rfl) (by simp) ?_; refine AllReadyIn.cons rfl (fun Kr hKr => ?_) (AllReadyIn.cons rfl (fun Kr hKr => ?_) (AllReadyIn.nil)))
      · (go_simp; refine hKr _ _ ?_; clear hKr Kr)
        (refine wpAnyIn_take (i := 9) (v := ?_) rfl rfl (by kernel_rfl) (by kernel_rfl) (by kernel_rfl) (fun _ _ _ h => h) ⟨Or.inl ⟨by rfl, by intro w0; go_simp; try with_reducible rfl⟩, fun _ => rfl⟩ ?_)
        (refine wpAnyIn_ready (rs := [5]) (by kernel_rfl) (by simp) ?_; refine AllReadyIn.cons rfl (fun Kr hKr => ?_) (AllReadyIn.nil))
        (go_simp; refine ⟨trivial, callsIn_wide.2 ((HIX _).mono ?_)⟩; rintro e wq ⟨rfl, rfl⟩; refine hKr _ _ ?_; clear hKr Kr)
        (refine wpAnyIn_take (i := 6) (v := ?_) rfl rfl (by kernel_rfl) (by kernel_rfl) (by kernel_rfl) (fun _ _ _ h => h) ⟨Or.inl ⟨by rfl, by intro w0; go_simp; try with_reducible rfl⟩, fun _ => rfl⟩ ?_)
        (refine wpAnyIn_take (i := 7) (v := ?_) rfl rfl (by kernel_rfl) (by kernel_rfl) (by kernel_rfl) (fun _ _ _ h => h) ⟨Or.inl ⟨by rfl, by intro w0; go_simp; try with_reducible rfl⟩, fun _ => rfl⟩ ?_)
        (refine wpAnyIn_take (i := 8) (v := ?_) rfl rfl (by kernel_rfl) (by kernel_rfl) (by kernel_rfl) (fun _ _ _ h => h) ⟨Or.inl ⟨by rfl, by intro w0; go_simp; try with_reducible rfl⟩, fun _ => rfl⟩ ?_)
        (refine wpAnyIn_take (i := 10) (v := ?_) rfl rfl (by kernel_rfl) (by kernel_rfl) (by kernel_rfl) (fun _ _ _ h => h) ⟨Or.inl ⟨by rfl, by intro w0; go_simp; try with_reducible rfl⟩, fun _ => rfl⟩ ?_)
        (refine wpAnyIn_ready (rs := [11]) (by kernel_rfl) (by simp) ?_; refine AllReadyIn.cons rfl (fun Kr hKr => ?_) (AllReadyIn.nil))
        (go_simp; refine hKr _ _ ?_; clear hKr Kr)
        refine wpAnyIn_done (by kernel_rfl) ?_ _
        exact FIN.out
      · (go_simp; refine ⟨trivial, callsIn_wide.2 ((HIX _).mono ?_)⟩; rintro e wq ⟨rfl, rfl⟩; refine hKr _ _ ?_; clear hKr Kr)
        (refine wpAnyIn_take (i := 6) (v := ?_) rfl rfl (by kernel_rfl) (by kernel_rfl) (by kernel_rfl) (fun _ _ _ h => h) ⟨Or.inl ⟨by rfl, by intro w0; go_simp; try with_reducible rfl⟩, fun _ => rfl⟩ ?_)
        (refine wpAnyIn_take (i := 7) (v := ?_) rfl rfl (by kernel_rfl) (by kernel_rfl) (by kernel_rfl) (fun _ _ _ h => h) ⟨Or.inl ⟨by rfl, by intro w0; go_simp; try with_reducible rfl⟩, fun _ => rfl⟩ ?_)
        (refine wpAnyIn_take (i := 8) (v := ?_) rfl rfl (by kernel_rfl) (by kernel_rfl) (by kernel_rfl) (fun _ _ _ h => h) ⟨Or.inl ⟨by rfl, by intro w0; go_simp; try with_reducible rfl⟩, fun _ => rfl⟩ ?_)
        (refine wpAnyIn_ready (rs := [0]) (by kernel_rfl) (by simp) ?_; refine AllReadyIn.cons rfl (fun Kr hKr => ?_) (AllReadyIn.nil))
        (go_simp; refine hKr _ _ ?_; clear hKr Kr)
        (refine wpAnyIn_take (i := 9) (v := ?_) rfl rfl (by kernel_rfl) (by kernel_rfl) (by kernel_rfl) (fun _ _ _ h => h) ⟨Or.inl ⟨by rfl, by intro w0; go_simp; try with_reducible rfl⟩, fun _ => rfl⟩ ?_)
        (refine wpAnyIn_take (i := 10) (v := ?_) rfl rfl (by kernel_rfl) (by kernel_rfl) (by kernel_rfl) (fun _ _ _ h => h) ⟨Or.inl ⟨by rfl, by intro w0; go_simp; try with_reducible rfl⟩, fun _ => rfl⟩ ?_)
        (refine wpAnyIn_ready (rs := [11]) (by kernel_rfl) (by simp) ?_; refine AllReadyIn.cons rfl (fun Kr hKr => ?_) (AllReadyIn.nil))
        (go_simp; refine hKr _ _ ?_; clear hKr Kr)
        refine wpAnyIn_done (by kernel_rfl) ?_ _
        exact FIN.out
  · intro D W hD hI hd
    obtain ⟨h1, h2, h3, h4⟩ := hI
    have c2 : W.cell? ⟨w1.heap.size, 0, none⟩ = some (.pointer (some ⟨w.heap.size + 1, 0, none⟩)) := h2.cell 0
    have h1' : At W (w.heap.size + 1) 106 (gC g) := by
      have h1 : At W (w.heap.size + 1) 106 (gC (halfG g 9)) := h1
      rwa [halfG_full] at h1
    have hDD : w1.heap.size + 2 ≤ D := by first | omega | simpa [World.size_alloc, Nat.add_assoc] using hD
    clear h1 h2 h3 hA0 hA1 hA2
    gi_wp2
    refine ⟨by simp, .inl ⟨D, _, rfl, run_takeDeferred hd, ?_⟩⟩
    exact ⟨_, results_tmp rfl _ _ _, w.heap.size + 1, rfl, (World.putObj_heap_other (by omega)).trans h1', by omega, h4.trans ⟨rfl, rfl, rfl, by simp [World.putObj], fun k hk => World.putObj_heap_other (by omega)⟩⟩
  · intro _ _ _ _ _ _ hf
    exact hf.elim
end Go.Proofs.Yteadhnpmmpninaa
namespace Go.PM
open Go.RowKit
theorem SVal_then {f g : Nat → ByteArray} (h1 : SVal (srcT f)) (h2 : SVal (srcT g)) : SVal (srcT (thenF f g)) := by
  intro p hp
  rw [srcT_then]
  exact SVal_cmp h1 h2 p hp
theorem SVal_tab {xs : List Mv} (h : MV xs) : SVal (srcT (tabOf xs)) := by
  intro p hp
  rw [srcT_M h hp]
  exact SVal_M h p hp
theorem SVal_zero : SVal (srcT fun _ => emp) := fun _ h => isS_nm h
/-- what the loop of power holds: what is done, what is left -/
structure PwR (f : Nat → ByteArray) (N : Nat) (d x : Nat → ByteArray) (k : Nat) : Prop where
  inv : PwInv f N d x k
  dv : SVal (srcT d)
  xv : SVal (srcT x)
theorem PwR.start {f : Nat → ByteArray} (h : SVal (srcT f)) (N : Nat) : PwR f N (fun _ => emp) f N := ⟨PwInv_start f N, SVal_zero, h⟩
theorem PwR.odd {f d x : Nat → ByteArray} {N n : Nat} (h : PwR f N d x n) (h1 : n % 2 = 1) : PwR f N (thenF d x) (thenF x x) (n / 2) := ⟨PwInv_odd h.inv h1, SVal_then h.dv h.xv, SVal_then h.xv h.xv⟩
theorem PwR.even {f d x : Nat → ByteArray} {N n : Nat} (h : PwR f N d x n) (h1 : n % 2 = 0) : PwR f N d (thenF x x) (n / 2) := ⟨PwInv_even h.inv h1, h.dv, SVal_then h.xv h.xv⟩
theorem PwR.done {f d x : Nat → ByteArray} {N : Nat} (h : PwR f N d x 0) : ∀ p, p < 9 → srcT d p = pwF (srcT f) N p := fun _ hp => PwInv_end h.inv hp
end Go.PM
namespace Go.Proofs.Yteadhnpmmpninaa
open Go.RowKit Go.PM

theorem idle_v (f : Nat → ByteArray) (w : World) :
    Calls Try.prog 71 #[tabX f] w fun e w' => e = .returned (tabX (noIdle f)) ∧ Below w.heap.size w w' := idle_c f w
end Go.Proofs.Yteadhnpmmpninaa
namespace Go.PM
open Go.RowKit
theorem compM_len (xs ys : List Mv) : (compM xs ys).length ≤ 9 := by
  unfold compM
  split
  · exact lsF_len _ 9
  · simp
theorem compM_yes {xs ys : List Mv} (h1 : mvalid xs = true) (h2 : mvalid ys = true) : compM xs ys = lsF (cmpM xs ys) 9 := by rw [compM, h1, h2]; rfl
theorem compM_no {xs ys : List Mv} (h : (mvalid xs && mvalid ys) = false) : compM xs ys = [] := by rw [compM, h]; rfl
def pwL (xs : List Mv) (n : Nat) : List Mv := lsF (pwF (fun q => srcM xs (nm q)) n) 9
theorem pwL_zero (xs : List Mv) : pwL xs 0 = [] := lsF_nm
theorem pwL_succ (xs : List Mv) (n : Nat) : lsF (cmpM (pwL xs n) xs) 9 = pwL xs (n + 1) := cmpM_pw xs n
theorem pwL_len (xs : List Mv) (n : Nat) : (pwL xs n).length ≤ 9 := lsF_len _ 9
def powOk (xs : List Mv) (n : Int) : Bool := mvalid xs && (decide (0 ≤ n) && decide (n ≤ 60))
theorem powM_yes {xs : List Mv} {n : Int} (h : powOk xs n = true) : powM xs n = pwL xs n.toNat := by
  unfold powOk at h; rw [powM, h]; rfl
theorem powM_no {xs : List Mv} {n : Int} (h : powOk xs n = false) : powM xs n = [] := by
  unfold powOk at h; rw [powM, h]; rfl
theorem powM_len (xs : List Mv) (n : Int) : (powM xs n).length ≤ 9 := by
  unfold powM
  split
  · exact lsF_len _ 9
  · simp
end Go.PM
namespace Go.Proofs.Yteadhnpmmpninaa
open Go.RowKit Go.PM

end Go.Proofs.Yteadhnpmmpninaa
namespace Go.PM
open Go.RowKit
theorem powM_tab {xs : List Mv} (h : MV xs) {d : Nat → ByteArray} {n : Nat} (hn : n ≤ 60) (hd : ∀ p, p < 9 → srcT d p = pwF (srcT (tabOf xs)) n p) : mvT (noIdle d) (List.range 9) = powM xs (n : Int) := by
  have m1 : mvalid xs = true := by simpa [mvalid] using h
  have hok : powOk xs (n : Int) = true := by
    unfold powOk
    rw [m1]
    simp
    omega
  rw [powM_yes hok, mvT_idle]
  refine lsF_congr fun p hp => ?_
  rw [hd p hp]
  exact pwF_congr (fun q hq => srcT_M h hq) n p hp
end Go.PM
namespace Go.Proofs.Yteadhnpmmpninaa
open Go.RowKit Go.PM

end Go.Proofs.Yteadhnpmmpninaa
namespace Go.PM
open Go.RowKit
theorem undoM_len (xs : List Mv) : (undoM xs).length ≤ 9 := by
  unfold undoM
  split
  · exact lsF_len _ 9
  · simp
theorem undoM_yes {xs : List Mv} (h : exchB xs = true) : undoM xs = unL xs 9 := by rw [undoM, if_pos h, unL_inv (exchB_M h)]
theorem undoM_no {xs : List Mv} (h : exchB xs = false) : undoM xs = [] := by rw [undoM, h]; rfl
def lostB (xs : List Mv) : ByteArray := okS (mvalid xs) (leavesB xs)
theorem exchB_eq (xs : List Mv) : exchB xs = (mvalid xs && decide (lostB xs = emp)) := by
  unfold exchB lostB okS
  cases mvalid xs <;> simp
end Go.PM
namespace Go.Proofs.Yteadhnpmmpninaa
open Go.RowKit Go.PM

set_option maxRecDepth 100000 in
set_option maxHeartbeats 1000000 in
theorem spLostBy_c (xs : List Mv) (v : Value) (w : World) (hx : RdM w v xs) (hz : ∀ m ∈ xs, m.1.size ≤ 9223372036854775807 ∧ m.2.size ≤ 9223372036854775807) (hn' : xs.length ≤ 1048576) :
    Calls Try.prog 92 #[v] w fun e w' => e = .returned (.tuple #[.string (lostB xs), .bool (mvalid xs)]) ∧ Below w.heap.size w w' := by
  have HO : Hid (lostB xs = if mvalid xs then leavesB xs else ⟨#[]⟩) := rfl
  have HV := Lib.hid (spMovesValid_c xs v w hx hz hn')
  rcases Bool.eq_false_or_eq_true (mvalid xs) with h1 | h1
  · have HN : Hid (∀ q, q < 9 → (ByteArray.mk #[97, 98, 99, 100, 101, 102, 65, 66, 67]).extract q (q+1) = nm q) := by
      show ∀ q, _
      intro q hq
      match q, hq with
      | 0, _ | 1, _ | 2, _ | 3, _ | 4, _ | 5, _ | 6, _ | 7, _ | 8, _ => decide +kernel
    have HALL := Lib.hid (show namesS (lostH xs) 9 = leavesB xs from lost_leaf (xs := xs) (by simpa [mvalid] using h1))
    have HX := Lib.hid (fun W (hW : Below w.heap.size w W) => hx.below hW)
    have HSS := Lib.hid (fun W (hW : RdM W v xs) a => l1Source_c xs v a W hW)
    have HRR := Lib.hid (fun W (hW : RdM W v xs) a => l1Readers_c xs v a W hW)
    have H1 := Lib.hid h1
    clear hx hz h1
    go_enter Try.func92, Try.ntmps92
    go_wp2_with fail
    refine HV.out.mono ?_
    rintro e w1 ⟨he, hb1⟩
    rw [H1.out] at he
    subst he
    have hs1 := hb1.size
    go_wp2
    go_loopw [4, 10] (fun o i wr => ∃ k : Nat, k ≤ 9 ∧ i = .int .i64 k ∧ o = .string (namesS (lostH xs) k) ∧ Below w.heap.size w wr) (fun _ i _ => 9 - (intOf i).toNat)
    case atStart => exact ⟨0, by omega, rfl, rfl, hb1⟩
    case round =>
      obtain ⟨k, hk, rfl, rfl, hb⟩ := hrel
      have hbs := hb.size
      by_cases hlt : k < 9
      · have hex := HN.out k hlt
        have hsz := namesS_size (lostH xs) k
        have HY := Lib.hid (namesS_yes (lostH xs) k)
        have HZ := Lib.hid (namesS_no (lostH xs) k)
        have HH := Lib.hid (show lostH xs k = (decide (srcM xs (nm k) ≠ nm k) && decide (namesW (rsH xs (nm k)) = emp)) from rfl)
        have HC := Lib.hid (HSS.out wr (HX.out wr hb) (nm k))
        have HRK := Lib.hid (fun W hW => HRR.out W (HX.out W hW) (nm k))
        generalize namesS (lostH xs) k = s0 at *
        generalize namesW (rsH xs (nm k)) = rr at *
        generalize srcM xs (nm k) = sk at *
        have hq1 : (nm k).size = 1 := rfl
        generalize nm k = q at *
        rcases Bool.eq_false_or_eq_true (sk.toList == q.toList) with hd | hd
        · have HD := Lib.hid hd
          go_wp2_with fail
          refine HC.out.mono ?_
          rintro e w2 ⟨rfl, hb2⟩
          have hbw := hb.trans (hb2.mono hbs)
          clear hb2 hb
          go_wp2
          go_roundw
          case rel =>
            have h := HD.out
            rw [beq_str, decide_eq_true_eq] at h
            exact ⟨k + 1, by omega, by go_num, by rw [HZ.out (by rw [HH.out, h]; simp)], hbw⟩
          case measure => simp [intOf]; omega
        · have HD := Lib.hid hd
          go_wp2_with fail
          refine HC.out.mono ?_
          rintro e w2 ⟨rfl, hb2⟩
          have hbw := hb.trans (hb2.mono hbs)
          have hbws := hbw.size
          have HR2 := Lib.hid (HRK.out w2 hbw)
          clear hb2 hb
          rcases Bool.eq_false_or_eq_true rr.toList.isEmpty with he | he
          all_goals
            have HE := Lib.hid he
            go_wp2_with (go_at_call 124; refine HR2.out.mono ?_; rintro e w3 ⟨rfl, hb3⟩; refine held ?_)
            unfold Held
            have hbw3 := hbw.trans (hb3.mono hbws)
            clear hb3 hbw
            go_wp2
            go_roundw
          case rel =>
            have h := HD.out
            rw [beq_str, decide_eq_false_iff_not] at h
            have h2 := HE.out
            rw [emp_iff, decide_eq_true_eq] at h2
            exact ⟨k + 1, by omega, by go_num, by rw [← HY.out (by rw [HH.out]; simp [h, h2])], hbw3⟩
          case measure => simp [intOf]; omega
          case rel =>
            have h2 := HE.out
            rw [emp_iff, decide_eq_false_iff_not] at h2
            exact ⟨k + 1, by omega, by go_num, by rw [HZ.out (by rw [HH.out]; simp [h2])], hbw3⟩
          case measure => simp [intOf]; omega
      · have hk9 : k = 9 := by omega
        subst hk9
        rw [HALL.out]
        go_wp2
        go_ret2
        exact ⟨by rw [H1.out, HO.out, H1.out]; rfl, hb⟩
  · go_enter Try.func92, Try.ntmps92
    go_wp2_with fail
    refine HV.out.mono ?_
    rintro e w1 ⟨rfl, hb1⟩
    go_wp2
    go_ret2
    exact ⟨by rw [HO.out, h1]; rfl, hb1⟩
theorem spIsExchange_c (xs : List Mv) (v : Value) (w : World) (hx : RdM w v xs) (hz : ∀ m ∈ xs, m.1.size ≤ 9223372036854775807 ∧ m.2.size ≤ 9223372036854775807) (hn' : xs.length ≤ 1048576) :
    Calls Try.prog 47 #[v] w fun e w' => e = .returned (.bool (exchB xs)) ∧ Below w.heap.size w w' := by
  have HO := Lib.hid (exchB_eq xs)
  have HL := Lib.hid (spLostBy_c xs v w hx hz hn')
  clear hx hz
  rcases Bool.eq_false_or_eq_true (mvalid xs) with h1 | h1
  · generalize lostB xs = lb at *
    rcases Bool.eq_false_or_eq_true lb.toList.isEmpty with he | he
    all_goals
      have HE := Lib.hid he
      go_enter Try.func47, Try.ntmps47
      go_wp2_with fail
      refine HL.out.mono ?_
      rintro e w1 ⟨rfl, hb1⟩
      go_wp2
      go_ret
      refine ⟨?_, hb1⟩
      rw [HO.out, h1]
    · have h2 := HE.out
      rw [emp_iff, decide_eq_true_eq] at h2
      rw [decide_eq_true h2]; rfl
    · have h2 := HE.out
      rw [emp_iff, decide_eq_false_iff_not] at h2
      rw [decide_eq_false h2]; rfl
  · go_enter Try.func47, Try.ntmps47
    go_wp2_with fail
    refine HL.out.mono ?_
    rintro e w1 ⟨rfl, hb1⟩
    go_wp2
    go_ret
    exact ⟨by rw [HO.out, h1]; rfl, hb1⟩
end Go.Proofs.Yteadhnpmmpninaa
namespace Go.PM
open Go.RowKit
theorem yieldsIf_row {P : Program} {ops : Array Oper} {S : World → Prop} {op : Oper} {a : Act} (hw : Region.wanted op (yielded ops a.tmps) = true) (ty : TypeId) (x : Operand) (ho : op.op = .load ty x)
    (b : Nat) (t : TypeId) (cs : Array Value) (hx : a.eval x = .pointer (some ⟨b, 0, none⟩)) (hS : ∀ w, S w → At w b t cs)
    (k : Nat) (e : TypeId) (hu : P.underlying ty = some (.array k e)) (hi : (P.info? ty).map (·.size) = some cs.size) : YieldsIf P ops S op (.agg cs) a :=
  .inl ⟨hw, fun w hw' => by
    unfold execOp
    simp only [ho, hx, Instr.loadAt, Instr.sureAddr, Sem.run_bind, Sem.run_pure, Result.andThen_ok, run_loadVar_row w b t ty cs (0, 0) _ (hS w hw') hu rfl hi]⟩
end Go.PM
