import Derived.Test.YteadhnpmmpninaaSwpP
namespace Go.PS
open Go.PM Go.RowKit Go.PW

/-- how many of a list are less than a number; how many pairs of a list descend -/
def cntL (a : Nat) (xs : List Nat) : Nat := (xs.filter fun x => decide (x < a)).length
def invL : List Nat → Nat
  | [] => 0
  | a :: xs => cntL a xs + invL xs
theorem cntL_app (a : Nat) (xs ys : List Nat) : cntL a (xs ++ ys) = cntL a xs + cntL a ys := by simp [cntL]
theorem cntL_cons (a b : Nat) (xs : List Nat) : cntL a (b :: xs) = (if b < a then 1 else 0) + cntL a xs := by
  unfold cntL
  rw [List.filter_cons]
  by_cases h : b < a
  · rw [if_pos (by simpa using h), if_pos h]; simp only [List.length_cons]; omega
  · rw [if_neg (by simpa using h), if_neg h]; omega
theorem cntL_turn (c : Nat) (l r : List Nat) (a b : Nat) : cntL c (l ++ a :: b :: r) = cntL c (l ++ b :: a :: r) := by
  rw [cntL_app, cntL_app, cntL_cons, cntL_cons, cntL_cons, cntL_cons]; omega
theorem invL_adj {a b : Nat} (h : b < a) : ∀ (l r : List Nat), invL (l ++ a :: b :: r) = invL (l ++ b :: a :: r) + 1
  | [], r => by
    simp only [List.nil_append, invL, cntL_cons]
    rw [if_pos h, if_neg (by omega)]; omega
  | c :: l, r => by
    have := invL_adj h l r
    simp only [List.cons_append, invL]
    rw [cntL_turn c l r a b, this]; omega
theorem invL_par {a b : Nat} (h : a ≠ b) (l r : List Nat) : invL (l ++ a :: b :: r) % 2 = (invL (l ++ b :: a :: r) + 1) % 2 := by
  rcases Nat.lt_or_ge b a with h1 | h1
  · rw [invL_adj h1]
  · rw [invL_adj (a := b) (b := a) (by omega) l r]; omega
theorem invL_past (a : Nat) (r : List Nat) : ∀ (m l : List Nat), a ∉ m → invL (l ++ a :: (m ++ r)) % 2 = (invL (l ++ (m ++ a :: r)) + m.length) % 2
  | [], l, _ => by simp
  | c :: m, l, h => by
    have hc : a ≠ c := fun e => h (by rw [e]; simp)
    have h1 := invL_par hc l (m ++ r)
    have h2 := invL_past a r m (l ++ [c]) (fun hm => h (by simp [hm]))
    simp only [List.append_assoc, List.cons_append, List.nil_append] at h1 h2 ⊢
    simp only [List.length_cons]
    omega
/-- two numbers of a list that change places -/
theorem invL_tr {a b : Nat} (hab : a ≠ b) (l m r : List Nat) (ha : a ∉ m) (hb : b ∉ m) : invL (l ++ a :: (m ++ b :: r)) % 2 = (invL (l ++ b :: (m ++ a :: r)) + 1) % 2 := by
  have h1 := invL_past a (b :: r) m l ha
  have h2 := invL_past b (a :: r) m l hb
  have h3 := invL_par hab (l ++ m) r
  simp only [List.append_assoc] at h3
  omega
def gl (g : Nat → Nat) : List Nat := [g 0, g 1, g 2, g 3, g 4, g 5, g 6, g 7, g 8]
def invG (g : Nat → Nat) : Nat := invL (gl g)
theorem swp_at (g : Nat → Nat) (p q : Nat) : swp g p q p = g q ∧ swp g p q q = g p ∧ ∀ x, x ≠ p → x ≠ q → swp g p q x = g x :=
  ⟨by show g (tr p q p) = _; rw [tr_left], by show g (tr p q q) = _; rw [tr_right], fun x h1 h2 => by show g (tr p q x) = _; rw [tr_ne h1 h2]⟩
theorem invG_adj (g : Nat → Nat) (k : Nat) (hk : k < 8) (h : g (k + 1) < g k) : invG g = invG (swp g k (k + 1)) + 1 := by
  obtain ⟨e1, e2, e3⟩ := swp_at g k (k + 1)
  unfold invG gl
  match k, hk with
  | 0, _ => rw [e1, e2, e3 2 (by omega) (by omega), e3 3 (by omega) (by omega), e3 4 (by omega) (by omega), e3 5 (by omega) (by omega), e3 6 (by omega) (by omega), e3 7 (by omega) (by omega), e3 8 (by omega) (by omega)]; exact invL_adj h [] [g 2, g 3, g 4, g 5, g 6, g 7, g 8]
  | 1, _ => rw [e1, e2, e3 0 (by omega) (by omega), e3 3 (by omega) (by omega), e3 4 (by omega) (by omega), e3 5 (by omega) (by omega), e3 6 (by omega) (by omega), e3 7 (by omega) (by omega), e3 8 (by omega) (by omega)]; exact invL_adj h [g 0] [g 3, g 4, g 5, g 6, g 7, g 8]
  | 2, _ => rw [e1, e2, e3 0 (by omega) (by omega), e3 1 (by omega) (by omega), e3 4 (by omega) (by omega), e3 5 (by omega) (by omega), e3 6 (by omega) (by omega), e3 7 (by omega) (by omega), e3 8 (by omega) (by omega)]; exact invL_adj h [g 0, g 1] [g 4, g 5, g 6, g 7, g 8]
  | 3, _ => rw [e1, e2, e3 0 (by omega) (by omega), e3 1 (by omega) (by omega), e3 2 (by omega) (by omega), e3 5 (by omega) (by omega), e3 6 (by omega) (by omega), e3 7 (by omega) (by omega), e3 8 (by omega) (by omega)]; exact invL_adj h [g 0, g 1, g 2] [g 5, g 6, g 7, g 8]
  | 4, _ => rw [e1, e2, e3 0 (by omega) (by omega), e3 1 (by omega) (by omega), e3 2 (by omega) (by omega), e3 3 (by omega) (by omega), e3 6 (by omega) (by omega), e3 7 (by omega) (by omega), e3 8 (by omega) (by omega)]; exact invL_adj h [g 0, g 1, g 2, g 3] [g 6, g 7, g 8]
  | 5, _ => rw [e1, e2, e3 0 (by omega) (by omega), e3 1 (by omega) (by omega), e3 2 (by omega) (by omega), e3 3 (by omega) (by omega), e3 4 (by omega) (by omega), e3 7 (by omega) (by omega), e3 8 (by omega) (by omega)]; exact invL_adj h [g 0, g 1, g 2, g 3, g 4] [g 7, g 8]
  | 6, _ => rw [e1, e2, e3 0 (by omega) (by omega), e3 1 (by omega) (by omega), e3 2 (by omega) (by omega), e3 3 (by omega) (by omega), e3 4 (by omega) (by omega), e3 5 (by omega) (by omega), e3 8 (by omega) (by omega)]; exact invL_adj h [g 0, g 1, g 2, g 3, g 4, g 5] [g 8]
  | 7, _ => rw [e1, e2, e3 0 (by omega) (by omega), e3 1 (by omega) (by omega), e3 2 (by omega) (by omega), e3 3 (by omega) (by omega), e3 4 (by omega) (by omega), e3 5 (by omega) (by omega), e3 6 (by omega) (by omega)]; exact invL_adj h [g 0, g 1, g 2, g 3, g 4, g 5, g 6] []
/-- the places from i on, n of them -/
def seg (g : Nat → Nat) (i : Nat) : Nat → List Nat
  | 0 => []
  | n + 1 => g i :: seg g (i + 1) n
theorem seg_app (g : Nat → Nat) : ∀ (n m i : Nat), seg g i (n + m) = seg g i n ++ seg g (i + n) m
  | 0, m, i => by simp [seg]
  | n + 1, m, i => by
    rw [show n + 1 + m = n + m + 1 by omega]
    simp only [seg, List.cons_append]
    rw [seg_app g n m (i + 1), show i + 1 + n = i + (n + 1) by omega]
theorem seg_congr {g g' : Nat → Nat} : ∀ (n i : Nat), (∀ x, i ≤ x → x < i + n → g x = g' x) → seg g i n = seg g' i n
  | 0, _, _ => rfl
  | n + 1, i, h => by
    simp only [seg]
    rw [h i (Nat.le_refl _) (by omega), seg_congr n (i + 1) fun x h1 h2 => h x (by omega) (by omega)]
theorem seg_mem {g : Nat → Nat} {a : Nat} : ∀ (n i : Nat), a ∈ seg g i n → ∃ x, i ≤ x ∧ x < i + n ∧ g x = a
  | 0, _, h => by cases h
  | n + 1, i, h => by
    rcases List.mem_cons.1 h with rfl | h
    · exact ⟨i, Nat.le_refl _, by omega, rfl⟩
    · obtain ⟨x, h1, h2, h3⟩ := seg_mem n (i + 1) h
      exact ⟨x, by omega, by omega, h3⟩
theorem gl_seg (g : Nat → Nat) : gl g = seg g 0 9 := rfl
theorem gl_split (g : Nat → Nat) {i j : Nat} (hij : i < j) (hj : j < 9) : gl g = seg g 0 i ++ g i :: (seg g (i + 1) (j - i - 1) ++ g j :: seg g (j + 1) (8 - j)) := by
  rw [gl_seg, show 9 = i + (1 + ((j - i - 1) + (1 + (8 - j)))) by omega, seg_app, seg_app, seg_app, seg_app]
  simp only [seg, Nat.zero_add, List.cons_append, List.nil_append]
  rw [show i + 1 + (j - i - 1) = j by omega]
theorem invG_tr {g : Nat → Nat} (h : Prm g) {i j : Nat} (hij : i < j) (hj : j < 9) : invG g % 2 = (invG (swp g i j) + 1) % 2 := by
  obtain ⟨e1, e2, e3⟩ := swp_at g i j
  unfold invG
  rw [gl_split g hij hj, gl_split (swp g i j) hij hj, e1, e2]
  rw [seg_congr (g := swp g i j) (g' := g) i 0 fun x _ h2 => e3 x (by omega) (by omega)]
  rw [seg_congr (g := swp g i j) (g' := g) (j - i - 1) (i + 1) fun x h1 h2 => e3 x (by omega) (by omega)]
  rw [seg_congr (g := swp g i j) (g' := g) (8 - j) (j + 1) fun x h1 h2 => e3 x (by omega) (by omega)]
  refine invL_tr (fun e => ?_) _ _ _ (fun hm => ?_) (fun hm => ?_)
  · have := h.inj i j (by omega) hj e; omega
  · obtain ⟨x, h1, h2, h3⟩ := seg_mem _ _ hm
    have := h.inj x i (by omega) (by omega) h3; omega
  · obtain ⟨x, h1, h2, h3⟩ := seg_mem _ _ hm
    have := h.inj x j (by omega) hj h3; omega
/-- swaps one behind the other, seen by the goals -/
def appS (ps : List (Nat × Nat)) (g : Nat → Nat) : Nat → Nat := ps.foldl (fun g p => swp g p.1 p.2) g
theorem appS_app (ps qs : List (Nat × Nat)) (g : Nat → Nat) : appS (ps ++ qs) g = appS qs (appS ps g) := by unfold appS; rw [List.foldl_append]
/-- swaps of two places -/
def okP (ps : List (Nat × Nat)) : Prop := ∀ p ∈ ps, p.1 < 9 ∧ p.2 < 9 ∧ p.1 ≠ p.2
theorem okP_app {ps qs : List (Nat × Nat)} (h1 : okP ps) (h2 : okP qs) : okP (ps ++ qs) := fun p hp => (List.mem_append.1 hp).elim (h1 p) (h2 p)
theorem appS_par : ∀ (ps : List (Nat × Nat)) (g : Nat → Nat), Prm g → okP ps → invG g % 2 = (invG (appS ps g) + ps.length) % 2 ∧ Prm (appS ps g)
  | [], g, h, _ => ⟨by simp [appS], h⟩
  | p :: ps, g, h, ho => by
    obtain ⟨h1, h2, h3⟩ := ho p (by simp)
    have hs := h.swp h1 h2
    obtain ⟨h4, h5⟩ := appS_par ps (swp g p.1 p.2) hs fun q hq => ho q (by simp [hq])
    refine ⟨?_, h5⟩
    show _ = (invG (appS ps (swp g p.1 p.2)) + (ps.length + 1)) % 2
    have h6 : invG g % 2 = (invG (swp g p.1 p.2) + 1) % 2 := by
      rcases Nat.lt_or_ge p.1 p.2 with hlt | hge
      · exact invG_tr h hlt h2
      · rw [swp_comm]; exact invG_tr h (by omega) h1
    omega
theorem invG_id {g : Nat → Nat} (h : ∀ x, x < 9 → g x = x) : invG g = 0 := by
  have : gl g = gl (fun x => x) := by
    rw [gl_seg, gl_seg]; exact seg_congr 9 0 fun x _ h2 => h x (by omega)
  unfold invG; rw [this]; decide
theorem rsW_app : ∀ (n : Nat) (g : Nat → Nat) (p : Nat), Prm g → p < 9 → appS (rsW n g p).1 g = (rsW n g p).2 ∧ okP (rsW n g p).1
  | 0, _, _, _, _ => ⟨rfl, by simp [okP, rsW]⟩
  | n + 1, g, p, h, hp => by
    by_cases e : hold g p = p
    · rw [rsW_stop _ e]; exact ⟨rfl, by simp [okP]⟩
    · rw [rsW_go _ e]
      have h1 := h.hold hp
      obtain ⟨h2, h3⟩ := rsW_app n _ _ (h.swp hp h1.1) h1.1
      refine ⟨h2, fun q hq => ?_⟩
      rcases List.mem_cons.1 hq with rfl | hq
      · exact ⟨hp, h1.1, fun e2 => e e2.symm⟩
      · exact h3 q hq
theorem rsA_app {g : Nat → Nat} (h : Prm g) : ∀ k, k ≤ 9 → appS (rsA k g).1 g = (rsA k g).2 ∧ okP (rsA k g).1
  | 0, _ => ⟨rfl, by simp [okP, rsA]⟩
  | k + 1, hk => by
    obtain ⟨h1, h2⟩ := rsA_app h k (by omega)
    obtain ⟨h3, h4⟩ := rsW_app 9 _ k (rsA_prm h k (by omega)) (by omega)
    refine ⟨?_, okP_app h2 h4⟩
    show appS ((rsA k g).1 ++ _) g = _
    rw [appS_app, h1, h3]; rfl

/-- going through the first k pairs of neighbours once -/
def pas : Nat → (Nat → Nat) → List (Nat × Nat) × (Nat → Nat)
  | 0, g => ([], g)
  | k + 1, g => if (pas k g).2 (k + 1) < (pas k g).2 k then ((pas k g).1 ++ [(k, k + 1)], swp (pas k g).2 k (k + 1)) else pas k g
theorem pas_yes {k : Nat} {g : Nat → Nat} (h : (pas k g).2 (k + 1) < (pas k g).2 k) : pas (k + 1) g = ((pas k g).1 ++ [(k, k + 1)], swp (pas k g).2 k (k + 1)) := by rw [pas, if_pos h]
theorem pas_no {k : Nat} {g : Nat → Nat} (h : ¬ (pas k g).2 (k + 1) < (pas k g).2 k) : pas (k + 1) g = pas k g := by rw [pas, if_neg h]
theorem pas_facts {g : Nat → Nat} (h : Prm g) : ∀ k, k ≤ 8 → Prm (pas k g).2 ∧ invG g = invG (pas k g).2 + (pas k g).1.length ∧ appS (pas k g).1 g = (pas k g).2 ∧ (∀ p ∈ (pas k g).1, p.1 < 8 ∧ p.2 = p.1 + 1) ∧ (pas k g).1.length ≤ k
  | 0, _ => ⟨h, rfl, rfl, by simp [pas], by simp [pas]⟩
  | k + 1, hk => by
    obtain ⟨h1, h2, h3, h4, h5⟩ := pas_facts h k (by omega)
    by_cases hc : (pas k g).2 (k + 1) < (pas k g).2 k
    · rw [pas_yes hc]
      refine ⟨h1.swp (by omega) (by omega), ?_, ?_, fun p hp => ?_, by simp; omega⟩
      · rw [h2, invG_adj _ k (by omega) hc]; simp; omega
      · show appS (_ ++ _) g = _
        rw [appS_app, h3]; rfl
      · rcases List.mem_append.1 hp with hp | hp
        · exact h4 p hp
        · simp at hp; subst hp; exact ⟨by show k < 8; omega, rfl⟩
    · rw [pas_no hc]; exact ⟨h1, h2, h3, h4, by omega⟩
def dsc (g : Nat → Nat) (k : Nat) : Bool := decide (g (k + 1) < g k)
/-- the first k pairs do not descend -/
def upTo (g : Nat → Nat) (k : Nat) : Prop := ∀ j, j < k → ¬ g (j + 1) < g j
theorem pas_up {g : Nat → Nat} : ∀ k, upTo g k → pas k g = ([], g)
  | 0, _ => rfl
  | k + 1, h => by
    have h1 := pas_up k fun j hj => h j (by omega)
    rw [pas_no (by rw [h1]; exact h k (by omega)), h1]
theorem pas_grows (g : Nat → Nat) : ∀ k j, k ≤ j → (pas k g).1.length ≤ (pas j g).1.length
  | k, 0, h => by have : k = 0 := by omega
                  subst this; exact Nat.le_refl _
  | k, j + 1, h => by
    rcases Nat.lt_or_ge j k with h1 | h1
    · have : k = j + 1 := by omega
      subst this; exact Nat.le_refl _
    · refine Nat.le_trans (pas_grows g k j h1) ?_
      by_cases hc : (pas j g).2 (j + 1) < (pas j g).2 j
      · rw [pas_yes hc]; simp
      · rw [pas_no hc]; exact Nat.le_refl _
/-- where a pair descends, something is swapped -/
theorem pas_some {g : Nat → Nat} {k : Nat} (hk : k < 8) (h : g (k + 1) < g k) : 1 ≤ (pas 8 g).1.length := by
  obtain ⟨m, hm, hup⟩ : ∃ m, (m < 8 ∧ g (m + 1) < g m) ∧ upTo g m := by
    have key : ∀ n, n < 8 → g (n + 1) < g n → ∃ m, (m < 8 ∧ g (m + 1) < g m) ∧ upTo g m := by
      intro n
      induction n using Nat.strongRecOn with
      | ind n ih =>
        intro h8 hn
        by_cases h2 : ∃ j, j < n ∧ g (j + 1) < g j
        · obtain ⟨j, h3, h4⟩ := h2; exact ih j h3 (by omega) h4
        · exact ⟨n, ⟨h8, hn⟩, fun j hj hd => h2 ⟨j, hj, hd⟩⟩
    exact key k hk h
  have h1 := pas_up m hup
  have h2 : (pas (m + 1) g).1.length = 1 := by
    rw [pas_yes (by rw [h1]; exact hm.2), h1]; rfl
  have := pas_grows g (m + 1) 8 (by omega)
  omega
/-- goals in order are those of nothing -/
theorem up_id {g : Nat → Nat} (h : Prm g) (hu : upTo g 8) : ∀ x, x < 9 → g x = x := by
  have hlt : ∀ x, x < 8 → g x < g (x + 1) := fun x hx => by
    have h1 := hu x hx
    have h2 : g x ≠ g (x + 1) := fun e => by have := h.inj _ _ (by omega) (by omega) e; omega
    omega
  have hlo : ∀ x, x < 9 → x ≤ g x := by
    intro x
    induction x with
    | zero => intro _; omega
    | succ x ih => intro hx; have := ih (by omega); have := hlt x (by omega); omega
  have hhi : ∀ d, d < 9 → g (8 - d) + d ≤ 8 := by
    intro d
    induction d with
    | zero => intro _; have := h.lt 8 (by omega); simpa using (by omega : g 8 ≤ 8)
    | succ d ih =>
      intro hd
      have h1 := ih (by omega)
      have h2 := hlt (8 - (d + 1)) (by omega)
      rw [show 8 - (d + 1) + 1 = 8 - d by omega] at h2
      omega
  intro x hx
  have h1 := hlo x hx
  have h2 := hhi (8 - x) (by omega)
  rw [show 8 - (8 - x) = x by omega] at h2
  omega
/-- swaps of neighbours, going through all pairs again and again -/
def nbF : Nat → (Nat → Nat) → List (Nat × Nat)
  | 0, _ => []
  | n + 1, g => if (List.range 8).any (dsc g) then (pas 8 g).1 ++ nbF n (pas 8 g).2 else []
theorem nbF_stop (n : Nat) {g : Nat → Nat} (h : upTo g 8) : nbF n g = [] := by
  cases n with
  | zero => rfl
  | succ n =>
    rw [nbF, if_neg]
    rw [List.any_eq_true]
    rintro ⟨k, hk, hd⟩
    exact h k (by simpa using hk) (by simpa [dsc] using hd)
theorem nbF_go (n : Nat) {g : Nat → Nat} {k : Nat} (hk : k < 8) (h : g (k + 1) < g k) : nbF (n + 1) g = (pas 8 g).1 ++ nbF n (pas 8 g).2 := by
  rw [nbF, if_pos]
  rw [List.any_eq_true]
  exact ⟨k, by simpa using hk, by simpa [dsc] using h⟩
theorem up_or (g : Nat → Nat) : upTo g 8 ∨ ∃ k, k < 8 ∧ g (k + 1) < g k := by
  by_cases h : ∃ k, k < 8 ∧ g (k + 1) < g k
  · exact .inr h
  · exact .inl fun j hj hd => h ⟨j, hj, hd⟩
theorem nbF_facts : ∀ (n : Nat) (g : Nat → Nat), Prm g → invG g ≤ n → (nbF n g).length = invG g ∧ (∀ x, x < 9 → appS (nbF n g) g x = x) ∧ ∀ p ∈ nbF n g, p.1 < 8 ∧ p.2 = p.1 + 1
  | n, g, h, hn => by
    rcases up_or g with hu | ⟨k, hk, hd⟩
    · rw [nbF_stop n hu]
      have hid := up_id h hu
      exact ⟨(invG_id hid).symm, fun x hx => hid x hx, by simp⟩
    · have h1 := pas_some hk hd
      obtain ⟨h2, h3, h4, h5, _⟩ := pas_facts h 8 (Nat.le_refl _)
      match n, hn with
      | 0, hn => omega
      | n + 1, hn =>
        rw [nbF_go n hk hd]
        obtain ⟨h6, h7, h8⟩ := nbF_facts n _ h2 (by omega)
        refine ⟨by rw [List.length_append, h6]; omega, fun x hx => ?_, fun p hp => (List.mem_append.1 hp).elim (h5 p) (h8 p)⟩
        rw [appS_app, h4]; exact h7 x hx
theorem cntL_le (a : Nat) (xs : List Nat) : cntL a xs ≤ xs.length := List.length_filter_le _ _
theorem invG_le (g : Nat → Nat) : invG g ≤ 36 := by
  unfold invG gl
  simp only [invL]
  have h0 := cntL_le (g 0) [g 1, g 2, g 3, g 4, g 5, g 6, g 7, g 8]
  have h1 := cntL_le (g 1) [g 2, g 3, g 4, g 5, g 6, g 7, g 8]
  have h2 := cntL_le (g 2) [g 3, g 4, g 5, g 6, g 7, g 8]
  have h3 := cntL_le (g 3) [g 4, g 5, g 6, g 7, g 8]
  have h4 := cntL_le (g 4) [g 5, g 6, g 7, g 8]
  have h5 := cntL_le (g 5) [g 6, g 7, g 8]
  have h6 := cntL_le (g 6) [g 7, g 8]
  have h7 := cntL_le (g 7) [g 8]
  have h8 := cntL_le (g 8) []
  simp only [List.length_cons, List.length_nil] at h0 h1 h2 h3 h4 h5 h6 h7 h8
  omega
/-- swaps that do the same are of an even number more or less -/
theorem par_same {g : Nat → Nat} (h : Prm g) {ps qs : List (Nat × Nat)} (hp : okP ps) (hq : okP qs) (h1 : ∀ x, x < 9 → appS ps g x = x) (h2 : ∀ x, x < 9 → appS qs g x = x) : ps.length % 2 = qs.length % 2 := by
  have h3 := (appS_par ps g h hp).1
  have h4 := (appS_par qs g h hq).1
  rw [invG_id h1] at h3
  rw [invG_id h2] at h4
  omega
/-- labels that swaps join: as many classes as places less swaps, or more -/
theorem labels : ∀ ps : List (Nat × Nat), ∃ L : Nat → Nat, (∀ p ∈ ps, L p.1 = L p.2) ∧ ∀ R : List Nat, (∀ x, x < 9 → ∃ r ∈ R, L x = L r) → 9 ≤ R.length + ps.length
  | [] => ⟨id, by simp, fun R h => by
      have := PM.nodup_le (List.range 9) R List.nodup_range fun x hx => by
        obtain ⟨r, hr, e⟩ := h x (by simpa using hx)
        have e : x = r := e
        rw [e]; exact hr
      simpa using this⟩
  | p :: ps => by
    obtain ⟨L, h1, h2⟩ := labels ps
    refine ⟨joinH L p.1 p.2, fun q hq => ?_, fun R hR => ?_⟩
    · unfold joinH
      rcases List.mem_cons.1 hq with rfl | hq
      · rw [if_pos rfl]
        split
        · rfl
        · rfl
      · rw [h1 q hq]
    · by_cases hc : ∃ r ∈ R, L r = L p.1
      · have := h2 (p.2 :: R) fun x hx => by
          obtain ⟨r, hr, e⟩ := hR x hx
          unfold joinH at e
          by_cases hx1 : L x = L p.1
          · obtain ⟨r', hr', e'⟩ := hc
            exact ⟨r', by simp [hr'], hx1.trans e'.symm⟩
          · rw [if_neg hx1] at e
            by_cases hr1 : L r = L p.1
            · rw [if_pos hr1] at e; exact ⟨p.2, by simp, e⟩
            · rw [if_neg hr1] at e; exact ⟨r, by simp [hr], e⟩
        simp only [List.length_cons] at this ⊢; omega
      · have := h2 (p.1 :: R) fun x hx => by
          obtain ⟨r, hr, e⟩ := hR x hx
          have hr1 : ¬ L r = L p.1 := fun e => hc ⟨r, hr, e⟩
          unfold joinH at e
          rw [if_neg hr1] at e
          by_cases hx1 : L x = L p.1
          · exact ⟨p.1, by simp, hx1⟩
          · rw [if_neg hx1] at e; exact ⟨r, by simp [hr], e⟩
        simp only [List.length_cons] at this ⊢; omega
theorem labels_goal {L : Nat → Nat} : ∀ (ps : List (Nat × Nat)) (g : Nat → Nat), (∀ p ∈ ps, L p.1 = L p.2) → okP ps → (∀ x, x < 9 → appS ps g x = x) → ∀ x, x < 9 → L (g x) = L x
  | [], g, _, _, h, x, hx => by rw [show g x = x from h x hx]
  | p :: ps, g, hL, ho, h, x, hx => by
    obtain ⟨o1, o2, _⟩ := ho p (by simp)
    have ih := labels_goal ps (swp g p.1 p.2) (fun q hq => hL q (by simp [hq])) (fun q hq => ho q (by simp [hq])) h
    have hp := hL p (by simp)
    have h1 := ih (tr p.1 p.2 x) (tr_lt o1 o2 hx)
    have h2 : swp g p.1 p.2 (tr p.1 p.2 x) = g x := by show g (tr _ _ (tr _ _ x)) = _; rw [tr_tr]
    rw [h2] at h1
    rw [h1]
    unfold tr
    by_cases e1 : x = p.1
    · rw [if_pos e1, e1]; exact hp.symm
    · rw [if_neg e1]
      by_cases e2 : x = p.2
      · rw [if_pos e2, e2]; exact hp
      · rw [if_neg e2]
section
variable {f : Nat → ByteArray}
/-- no fewer swaps are enough -/
theorem swaps_least (hf : SV f) (he : Exch (srcT f)) {ps : List (Nat × Nat)} (ho : okP ps) (h : ∀ x, x < 9 → appS ps (invI (srcT f)) x = x) :
    (ringsF (nxT f) 9).flatten.length ≤ ps.length + (ringsF (nxT f) 9).length := by
  obtain ⟨L, h1, h2⟩ := labels ps
  have hL := labels_goal ps _ h1 ho h
  have hn := nice hf
  have hnd := PO.ringsF_nodup hn 9 (Nat.le_refl _)
  have hlow : ∀ r ∈ ringsF (nxT f) 9, ∀ x ∈ r, x < 9 := fun r hr x hx => by
    have hq := PO.ringQ f hf hr
    obtain ⟨i, hi⟩ := List.getElem?_of_mem hx
    have hil := (List.getElem?_eq_some_iff.1 hi).1
    rw [List.getElem?_eq_getElem hil] at hi
    rw [← Option.some.inj hi]; exact hq.low i hil
  -- all places of a ring have the label of its first one
  have hring : ∀ r (hr : r ∈ ringsF (nxT f) 9), ∀ i (hi : i < r.length), L r[i] = L (r.headD 0) := fun r hr => by
    have hq := PO.ringQ f hf hr
    intro i
    induction i with
    | zero =>
      intro hi
      match r, hi with
      | a :: r, _ => rfl
    | succ i ih =>
      intro hi
      have h3 := ih (by omega)
      have h4 := hq.next i (by omega)
      have h5 : (i + 1) % r.length = i + 1 := Nat.mod_eq_of_lt hi
      simp only [h5] at h4
      have h6 := hL _ (hq.low (i + 1) hi)
      have h7 := (exch_sx hf he (hq.low i (by omega))).2.2
      rw [h4] at h7
      rw [h7] at h6
      rw [← h3]; exact h6.symm
  have := h2 ((ringsF (nxT f) 9).map (fun r => r.headD 0) ++ (List.range 9).filter fun x => decide (x ∉ (ringsF (nxT f) 9).flatten)) fun x hx => by
    by_cases hm : x ∈ (ringsF (nxT f) 9).flatten
    · obtain ⟨r, hr, hxr⟩ := List.mem_flatten.1 hm
      obtain ⟨i, hi⟩ := List.getElem?_of_mem hxr
      have hil := (List.getElem?_eq_some_iff.1 hi).1
      rw [List.getElem?_eq_getElem hil] at hi
      refine ⟨r.headD 0, List.mem_append_left _ (List.mem_map.2 ⟨r, hr, rfl⟩), ?_⟩
      rw [← Option.some.inj hi]; exact hring r hr i hil
    · exact ⟨x, List.mem_append_right _ (List.mem_filter.2 ⟨by simpa using hx, by simpa using hm⟩), rfl⟩
  have hcount : (ringsF (nxT f) 9).flatten.length + ((List.range 9).filter fun x => decide (x ∉ (ringsF (nxT f) 9).flatten)).length ≤ 9 := by
    have h3 : ((ringsF (nxT f) 9).flatten ++ (List.range 9).filter fun x => decide (x ∉ (ringsF (nxT f) 9).flatten)).Nodup := by
      rw [List.nodup_append]
      refine ⟨hnd, List.nodup_range.filter _, fun a ha b hb e => ?_⟩
      subst e
      have := (List.mem_filter.1 hb).2
      simp [ha] at this
    have h4 := PW.nodup_le _ 9 h3 fun a ha => by
      rcases List.mem_append.1 ha with ha | ha
      · obtain ⟨r, hr, har⟩ := List.mem_flatten.1 ha
        exact hlow r hr a har
      · simpa using (List.mem_filter.1 ha).1
    simpa using h4
  simp only [List.length_append, List.length_map] at this
  omega
theorem prs_len : ∀ l : List Nat, (prs l).length = l.length - 1
  | [] => rfl
  | [_] => rfl
  | a :: b :: l => by
    have := prs_len (b :: l)
    simp only [prs, List.length_cons] at this ⊢; omega
theorem prs_count : ∀ rs : List (List Nat), (∀ r ∈ rs, 1 ≤ r.length) → (rs.flatMap prs).length + rs.length = rs.flatten.length
  | [], _ => rfl
  | r :: rs, h => by
    have h1 := prs_count rs fun x hx => h x (by simp [hx])
    have h2 := h r (by simp)
    rw [List.flatMap_cons, List.length_append, prs_len, List.length_cons, List.flatten_cons, List.length_append]
    omega
theorem rings_pos (hf : SV f) : ∀ r ∈ ringsF (nxT f) 9, 1 ≤ r.length := fun r hr => by have := (PO.ringQ f hf hr).two; omega
end
end Go.PS
