import Derived.Test.YteadhnpmmpninaaOrderP
namespace Go.PS
open Go.PM Go.RowKit Go.PW

/-- two numbers change places -/
def tr (p q x : Nat) : Nat := if x = p then q else if x = q then p else x
def swp (g : Nat → Nat) (p q : Nat) : Nat → Nat := fun x => g (tr p q x)
theorem tr_tr (p q x : Nat) : tr p q (tr p q x) = x := by
  unfold tr
  by_cases h1 : x = p
  · subst h1
    by_cases h2 : q = x
    · subst h2; simp
    · simp [h2]
  · by_cases h2 : x = q
    · subst h2; simp [h1]
    · simp [h1, h2]
theorem tr_lt {p q x : Nat} (hp : p < 9) (hq : q < 9) (hx : x < 9) : tr p q x < 9 := by
  unfold tr; split
  · exact hq
  · split
    · exact hp
    · exact hx
theorem tr_left (p q : Nat) : tr p q p = q := by unfold tr; rw [if_pos rfl]
theorem tr_right (p q : Nat) : tr p q q = p := by
  unfold tr; split
  · next h => exact h
  · rw [if_pos rfl]
theorem tr_ne {p q x : Nat} (h1 : x ≠ p) (h2 : x ≠ q) : tr p q x = x := by unfold tr; rw [if_neg h1, if_neg h2]
theorem tr_comm (p q x : Nat) : tr p q x = tr q p x := by
  unfold tr
  by_cases h1 : x = p
  · by_cases h2 : x = q
    · rw [if_pos h1, if_pos h2, ← h1, ← h2]
    · rw [if_pos h1, if_neg h2, if_pos h1]
  · by_cases h2 : x = q
    · rw [if_neg h1, if_pos h2, if_pos h2]
    · rw [if_neg h1, if_neg h2, if_neg h2, if_neg h1]
theorem swp_comm (g : Nat → Nat) (p q : Nat) : swp g p q = swp g q p := by funext x; unfold swp; rw [tr_comm]
/-- a permutation of the places -/
structure Prm (g : Nat → Nat) : Prop where
  lt : ∀ q, q < 9 → g q < 9
  inj : ∀ q r, q < 9 → r < 9 → g q = g r → q = r
  sur : ∀ p, p < 9 → ∃ q, q < 9 ∧ g q = p
theorem Prm.swp {g : Nat → Nat} (h : Prm g) {p q : Nat} (hp : p < 9) (hq : q < 9) : Prm (swp g p q) := by
  refine ⟨fun x hx => h.lt _ (tr_lt hp hq hx), fun x y hx hy e => ?_, fun x hx => ?_⟩
  · have := h.inj _ _ (tr_lt hp hq hx) (tr_lt hp hq hy) e
    rw [← tr_tr p q x, this, tr_tr]
  · obtain ⟨y, hy, e⟩ := h.sur x hx
    exact ⟨tr p q y, tr_lt hp hq hy, by unfold PS.swp; rw [tr_tr]; exact e⟩
/-- the place that has what a place is to get -/
def hold (g : Nat → Nat) (p : Nat) : Nat := ((List.range 9).find? fun q => decide (g q = p)).getD 0
theorem Prm.hold {g : Nat → Nat} (h : Prm g) {p : Nat} (hp : p < 9) : hold g p < 9 ∧ g (hold g p) = p := by
  obtain ⟨q, hq, e⟩ := h.sur p hp
  unfold PS.hold
  cases hf : (List.range 9).find? (fun q => decide (g q = p)) with
  | none => exact absurd (List.find?_eq_none.1 hf q (by simpa using hq)) (by simp [e])
  | some r =>
    have h1 := List.find?_some hf
    have h2 := List.mem_of_find?_eq_some hf
    exact ⟨by simpa using h2, by simpa using h1⟩
theorem Prm.hold_iff {g : Nat → Nat} (h : Prm g) {p q : Nat} (hp : p < 9) (hq : q < 9) : g q = p ↔ PS.hold g p = q := by
  have h1 := h.hold hp
  exact ⟨fun e => h.inj _ _ h1.1 hq (h1.2.trans e.symm), fun e => by rw [← e]; exact h1.2⟩
theorem filter_less {α : Type _} {P Q : α → Bool} : ∀ {l : List α}, (∀ x ∈ l, P x = true → Q x = true) → (∃ x ∈ l, Q x = true ∧ P x = false) → (l.filter P).length + 1 ≤ (l.filter Q).length
  | [], _, ⟨x, hx, _⟩ => by cases hx
  | a :: l, h, ⟨x, hx, h1, h2⟩ => by
    have hle : (l.filter P).length ≤ (l.filter Q).length := by
      clear hx h1 h2
      have h' : ∀ x ∈ l, P x = true → Q x = true := fun x hx => h x (List.mem_cons_of_mem _ hx)
      clear h
      induction l with
      | nil => simp
      | cons b l ih =>
        have ih := ih (fun x hx => h' x (List.mem_cons_of_mem _ hx))
        have hb := h' b (List.mem_cons_self ..)
        rw [List.filter_cons, List.filter_cons]
        rcases Bool.eq_false_or_eq_true (P b) with h3 | h3
        · rw [if_pos h3, if_pos (hb h3)]; simpa using ih
        · rw [if_neg (by rw [h3]; decide)]
          split
          · simp only [List.length_cons]; omega
          · exact ih
    rw [List.filter_cons, List.filter_cons]
    rcases List.mem_cons.1 hx with rfl | hx
    · rw [if_neg (by rw [h2]; decide), if_pos h1]
      simp only [List.length_cons]; omega
    · have ih := filter_less (fun x hx => h x (List.mem_cons_of_mem _ hx)) ⟨x, hx, h1, h2⟩
      have ha := h a (List.mem_cons_self ..)
      rcases Bool.eq_false_or_eq_true (P a) with h3 | h3
      · rw [if_pos h3, if_pos (ha h3)]
        simp only [List.length_cons]; omega
      · rw [if_neg (by rw [h3]; decide)]
        split
        · simp only [List.length_cons]; omega
        · exact ih
/-- how many places do not have what they are to get -/
def muG (g : Nat → Nat) : Nat := ((List.range 9).filter fun x => decide (g x ≠ x)).length
theorem muG_le (g : Nat → Nat) : muG g ≤ 9 := by
  have := List.length_filter_le (fun x => decide (g x ≠ x)) (List.range 9)
  simpa [muG] using this
theorem muG_step {g : Nat → Nat} (h : Prm g) {p : Nat} (hp : p < 9) (hne : hold g p ≠ p) : muG (swp g p (hold g p)) + 1 ≤ muG g := by
  have h1 := h.hold hp
  refine filter_less (fun x hx h2 => ?_) ⟨p, by simpa using hp, ?_, ?_⟩
  · rw [decide_eq_true_eq] at h2 ⊢
    intro e
    by_cases e1 : x = p
    · subst e1
      have := (h.hold_iff hp hp).1 e
      exact hne this
    · by_cases e2 : x = hold g p
      · rw [e2] at e; rw [h1.2] at e; exact hne e.symm
      · apply h2
        show g (tr p (hold g p) x) = x
        rw [tr_ne e1 e2]; exact e
  · rw [decide_eq_true_eq]; exact fun e => hne ((h.hold_iff hp hp).1 e)
  · rw [decide_eq_false_iff_not, Classical.not_not]
    show g (tr p (hold g p) p) = p
    rw [tr_left]; exact h1.2
/-- the swaps along a ring, from a place on -/
def rsW : Nat → (Nat → Nat) → Nat → List (Nat × Nat) × (Nat → Nat)
  | 0, g, _ => ([], g)
  | n + 1, g, p => if hold g p = p then ([], g) else ((p, hold g p) :: (rsW n (swp g p (hold g p)) (hold g p)).1, (rsW n (swp g p (hold g p)) (hold g p)).2)
theorem rsW_stop (n : Nat) {g : Nat → Nat} {p : Nat} (h : hold g p = p) : rsW n g p = ([], g) := by
  cases n with
  | zero => rfl
  | succ n => rw [rsW, if_pos h]
theorem rsW_go (n : Nat) {g : Nat → Nat} {p : Nat} (h : hold g p ≠ p) : rsW (n + 1) g p = ((p, hold g p) :: (rsW n (swp g p (hold g p)) (hold g p)).1, (rsW n (swp g p (hold g p)) (hold g p)).2) := by
  rw [rsW, if_neg h]
/-- the swaps of the first k places' rings -/
def rsA : Nat → (Nat → Nat) → List (Nat × Nat) × (Nat → Nat)
  | 0, g => ([], g)
  | k + 1, g => ((rsA k g).1 ++ (rsW 9 (rsA k g).2 k).1, (rsW 9 (rsA k g).2 k).2)
theorem rsW_prm : ∀ (n : Nat) (g : Nat → Nat) (p : Nat), Prm g → p < 9 → Prm (rsW n g p).2
  | 0, _, _, h, _ => h
  | n + 1, g, p, h, hp => by
    by_cases e : hold g p = p
    · rw [rsW_stop _ e]; exact h
    · rw [rsW_go _ e]
      have h1 := h.hold hp
      exact rsW_prm n _ _ (h.swp hp h1.1) h1.1
theorem rsA_prm {g : Nat → Nat} (h : Prm g) : ∀ k, k ≤ 9 → Prm (rsA k g).2
  | 0, _ => h
  | k + 1, hk => rsW_prm 9 _ k (rsA_prm h k (by omega)) (by omega)
theorem rsW_len : ∀ (n : Nat) (g : Nat → Nat) (p : Nat), Prm g → p < 9 → (rsW n g p).1.length + muG (rsW n g p).2 ≤ muG g
  | 0, g, p, _, _ => by simp [rsW]
  | n + 1, g, p, h, hp => by
    by_cases e : hold g p = p
    · rw [rsW_stop _ e]; simp
    · rw [rsW_go _ e]
      have h1 := h.hold hp
      have h2 := rsW_len n _ _ (h.swp hp h1.1) h1.1
      have h3 := muG_step h hp e
      simp only [List.length_cons]; omega
theorem rsA_len {g : Nat → Nat} (h : Prm g) : ∀ k, k ≤ 9 → (rsA k g).1.length + muG (rsA k g).2 ≤ muG g
  | 0, _ => by simp [rsA]
  | k + 1, hk => by
    have h1 := rsA_len h k (by omega)
    have h2 := rsW_len 9 _ k (rsA_prm h k (by omega)) (by omega)
    simp only [rsA, List.length_append]; omega
theorem rsA_le {g : Nat → Nat} (h : Prm g) (k : Nat) (hk : k ≤ 9) : (rsA k g).1.length ≤ 9 := by
  have := rsA_len h k hk
  have := muG_le g
  omega

/-- the pairs of each one of a list and the next -/
def prs : List Nat → List (Nat × Nat)
  | a :: b :: l => (a, b) :: prs (b :: l)
  | _ => []
/-- each one of a list is where the next one's value goes, and the last one is e -/
def Chn (g : Nat → Nat) (e : Nat) : Nat → List Nat → Prop
  | a, [] => a = e
  | a, b :: l => g b = a ∧ Chn g e b l
theorem Chn.congr {g g' : Nat → Nat} {e : Nat} : ∀ {l : List Nat} {a : Nat}, (∀ x ∈ l, g x = g' x) → Chn g e a l → Chn g' e a l
  | [], _, _, h => h
  | b :: l, a, he, h => ⟨by rw [← he b (by simp)]; exact h.1, h.2.congr fun x hx => he x (by simp [hx])⟩
theorem Chn.last {g : Nat → Nat} {e : Nat} : ∀ {l : List Nat} {a : Nat}, Chn g e a l → e ∈ a :: l
  | [], a, h => by rw [show a = e from h]; simp
  | b :: l, a, h => List.mem_cons_of_mem _ h.2.last
theorem rsW_chain : ∀ (l : List Nat) (n : Nat) (g : Nat → Nat) (a e : Nat), Prm g → (a :: l).Nodup → (∀ x ∈ a :: l, x < 9) → Chn g e a l → g a = e → l.length ≤ n →
    (rsW n g a).1 = prs (a :: l) ∧ ∀ x, x < 9 → (rsW n g a).2 x = if x ∈ a :: l then x else g x
  | [], n, g, a, e, h, _, hlt, hc, he, _ => by
    have ha := hlt a (by simp)
    have hg : g a = a := he.trans (show a = e from hc).symm
    have hh : hold g a = a := (h.hold_iff ha ha).1 hg
    rw [rsW_stop _ hh]
    refine ⟨rfl, fun x _ => ?_⟩
    by_cases hx : x = a
    · subst hx; simp [hg]
    · simp [hx]
  | b :: l, n, g, a, e, h, hn, hlt, hc, he, hl => by
    obtain ⟨n, rfl⟩ : ∃ m, n = m + 1 := ⟨n - 1, by simp only [List.length_cons] at hl; omega⟩
    have ha := hlt a (by simp)
    have hb := hlt b (by simp)
    rw [List.nodup_cons] at hn
    have hab : b ≠ a := fun e => hn.1 (by rw [← e]; simp)
    have hh : hold g a = b := (h.hold_iff ha hb).1 hc.1
    rw [rsW_go n (by rw [hh]; exact hab), hh]
    have hnb := (List.nodup_cons.1 hn.2).1
    have hc2 : Chn (swp g a b) e b l := hc.2.congr fun x hx => by
      show g x = g (tr a b x)
      rw [tr_ne (fun e => hn.1 (by rw [← e]; simp [hx])) (fun e => hnb (by rw [← e]; exact hx))]
    have he2 : swp g a b b = e := by show g (tr a b b) = e; rw [tr_right]; exact he
    obtain ⟨h1, h2⟩ := rsW_chain l n (swp g a b) b e (h.swp ha hb) hn.2 (fun x hx => hlt x (List.mem_cons_of_mem _ hx)) hc2 he2 (by simp only [List.length_cons] at hl; omega)
    refine ⟨by rw [h1]; rfl, fun x hx => ?_⟩
    rw [h2 x hx]
    by_cases hxl : x ∈ b :: l
    · rw [if_pos hxl, if_pos (List.mem_cons_of_mem _ hxl)]
    · rw [if_neg hxl]
      by_cases hxa : x = a
      · subst hxa
        rw [if_pos (by simp)]
        show g (tr x b x) = x
        rw [tr_left]; exact hc.1
      · rw [if_neg (by rw [List.mem_cons]; exact fun h => h.elim hxa hxl)]
        show g (tr a b x) = g x
        rw [tr_ne hxa (fun e => hxl (by rw [e]; simp))]
theorem chn_of {g : Nat → Nat} : ∀ (l : List Nat) (a : Nat), (∀ i (h : i + 1 < (a :: l).length), g (a :: l)[i + 1] = (a :: l)[i]) → ∃ e, Chn g e a l ∧ (a :: l)[l.length]? = some e
  | [], a, _ => ⟨a, rfl, rfl⟩
  | b :: l, a, h => by
    obtain ⟨e, h1, h2⟩ := chn_of l b fun i hi => by
      have := h (i + 1) (by simp only [List.length_cons] at hi ⊢; omega)
      simpa using this
    exact ⟨e, ⟨by have := h 0 (by simp); simpa using this, h1⟩, by simpa using h2⟩

section
variable {f : Nat → ByteArray}
/-- the goals of an exchange -/
theorem inv_prm (he : Exch (srcT f)) : Prm (invI (srcT f)) := by
  refine ⟨fun q hq => (he.inv hq).1, fun q r hq hr e => ?_, fun p hp => ?_⟩
  · have h1 := (he.inv hq).2
    have h2 := (he.inv hr).2
    rw [e, h2] at h1
    exact (nm_inj hr hq h1).symm
  · have h1 := pidx_spec (he.place hp)
    exact ⟨pidx (srcT f p), h1.1, ((he.inv_iff h1.1 hp).1 h1.2.symm).symm⟩
theorem exch_sx (hf : SV f) (he : Exch (srcT f)) {p : Nat} (hp : p < 9) : sx f p < 9 ∧ srcT f p = nm (sx f p) ∧ invI (srcT f) (sx f p) = p := by
  have h1 := he.place hp
  have h2 := isP_sidx (s := srcT f p) (by unfold isS; rw [h1]; rfl)
  rw [h1] at h2
  have h3 : sx f p < 9 := of_decide_eq_true h2.symm
  have h4 : srcT f p = nm (sx f p) := by rw [← sn_nm _ h3]; exact (sx_lt hf hp).2.symm
  exact ⟨h3, h4, ((he.inv_iff h3 hp).1 h4).symm⟩
theorem exch_fix (hf : SV f) (he : Exch (srcT f)) {p : Nat} (hp : p < 9) : invI (srcT f) p = p ↔ sx f p = p := by
  constructor
  · intro e
    have h1 := (he.inv hp).2
    rw [e] at h1
    have h2 := exch_sx hf he hp
    exact nm_inj h2.1 hp (h2.2.1.symm.trans h1)
  · intro e
    have h2 := exch_sx hf he hp
    rw [e] at h2; exact h2.2.2
theorem rsA_rings (hf : SV f) (he : Exch (srcT f)) : ∀ k, k ≤ 9 → (rsA k (invI (srcT f))).1 = (ringsF (nxT f) k).flatMap prs ∧
    ∀ x, x < 9 → (rsA k (invI (srcT f))).2 x = if x ∈ (ringsF (nxT f) k).flatten then x else invI (srcT f) x
  | 0, _ => ⟨rfl, fun x _ => by simp [ringsF, rsA]⟩
  | k + 1, hk => by
    obtain ⟨h1, h2⟩ := rsA_rings hf he k (by omega)
    have hn := nice hf
    have hk9 : k < 9 := by omega
    have hP := inv_prm he
    have hPk := rsA_prm hP k (by omega)
    by_cases hc : onRb (nxT f) k = true ∧ k ∉ (ringsF (nxT f) k).flatten
    · -- a ring begins here
      have hmem : way (nxT f) k ∈ ringsF (nxT f) (k + 1) := by rw [ringsF_yes hc.1 hc.2]; simp
      have hq : PO.RingQ f (way (nxT f) k) := by
        have hsub : ∀ m, k + 1 ≤ m → way (nxT f) k ∈ ringsF (nxT f) m := by
          intro m
          induction m with
          | zero => intro h; omega
          | succ m ih =>
            intro h
            rcases Nat.lt_or_ge m (k + 1) with h3 | h3
            · have : m = k := by omega
              subst this; exact hmem
            · by_cases hc2 : onRb (nxT f) m = true ∧ m ∉ (ringsF (nxT f) m).flatten
              · rw [ringsF_yes hc2.1 hc2.2]; exact List.mem_append_left _ (ih h3)
              · rw [ringsF_no hc2]; exact ih h3
        exact PO.ringQ f hf (hsub 9 hk)
      have hdis : ∀ x ∈ way (nxT f) k, x ∉ (ringsF (nxT f) k).flatten := fun x hx hx2 => by
        have := PO.ringsF_nodup hn (k + 1) hk
        rw [ringsF_yes hc.1 hc.2, List.flatten_append, List.nodup_append] at this
        exact this.2.2 x hx2 x (by simpa using hx) rfl
      obtain ⟨l, hl⟩ := way_first (nxT f) k hn (by omega)
      rw [hl] at hq hdis
      have hlow : ∀ x ∈ k :: l, x < 9 := fun x hx => by
        obtain ⟨i, hi⟩ := List.getElem?_of_mem hx
        have hil := (List.getElem?_eq_some_iff.1 hi).1
        rw [List.getElem?_eq_getElem hil] at hi
        rw [← Option.some.inj hi]; exact hq.low i hil
      have hgo : ∀ x ∈ k :: l, (rsA k (invI (srcT f))).2 x = invI (srcT f) x := fun x hx => by
        rw [h2 x (hlow x hx), if_neg (hdis x hx)]
      obtain ⟨e, hce, hlast⟩ := chn_of (g := (rsA k (invI (srcT f))).2) l k fun i hi => by
        rw [hgo _ (List.getElem_mem hi)]
        have h3 := hq.next i (by omega)
        have h4 : (i + 1) % (k :: l).length = i + 1 := Nat.mod_eq_of_lt hi
        simp only [h4] at h3
        rw [← h3]
        exact (exch_sx hf he (hq.low i (by omega))).2.2
      have hcl : (rsA k (invI (srcT f))).2 k = e := by
        rw [hgo k (by simp)]
        have h3 := hq.next l.length (by simp)
        have h4 : (l.length + 1) % (k :: l).length = 0 := by simp
        simp only [h4, List.getElem_cons_zero] at h3
        have h5 : (k :: l)[l.length]'(by simp) = e := by
          rw [List.getElem?_eq_getElem (by simp)] at hlast
          exact Option.some.inj hlast
        rw [h5] at h3
        rw [← h3]
        exact (exch_sx hf he (by rw [← h5]; exact hlow _ (List.getElem_mem _))).2.2
      have hlen : l.length ≤ 9 := by
        have := PW.nodup_le (k :: l) 9 hq.nodup hlow
        simp only [List.length_cons] at this; omega
      obtain ⟨c1, c2⟩ := rsW_chain l 9 _ k e hPk hq.nodup hlow hce hcl hlen
      rw [ringsF_yes hc.1 hc.2, hl]
      refine ⟨by simp only [rsA]; rw [c1, h1]; simp, fun x hx => ?_⟩
      show (rsW 9 (rsA k (invI (srcT f))).2 k).2 x = _
      rw [c2 x hx, h2 x hx]
      simp only [List.flatten_append, List.mem_append, List.flatten_cons, List.flatten_nil, List.append_nil]
      by_cases hx1 : x ∈ k :: l
      · rw [if_pos hx1, if_pos (.inr hx1)]
      · by_cases hx2 : x ∈ (ringsF (nxT f) k).flatten
        · rw [if_neg hx1, if_pos hx2, if_pos (.inl hx2)]
        · rw [if_neg hx1, if_neg hx2, if_neg (fun h => h.elim hx2 hx1)]
    · have hfix : (rsA k (invI (srcT f))).2 k = k := by
        rw [h2 k hk9]
        split
        · rfl
        · next hno =>
          have hnr : ¬ onRb (nxT f) k = true := fun h => hc ⟨h, hno⟩
          have : srcT f k = nm k := Classical.not_not.1 fun hne => hnr (PO.exch_ring hf he hk9 hne)
          exact (exch_fix hf he hk9).2 ((src_self hf hk9).1 this)
      have hh := (hPk.hold_iff hk9 hk9).1 hfix
      rw [ringsF_no hc]
      refine ⟨by simp only [rsA]; rw [rsW_stop _ hh, h1]; simp, fun x hx => ?_⟩
      show (rsW 9 (rsA k (invI (srcT f))).2 k).2 x = _
      rw [rsW_stop _ hh]; exact h2 x hx
theorem rsA_id (hf : SV f) (he : Exch (srcT f)) : ∀ x, x < 9 → (rsA 9 (invI (srcT f))).2 x = x := fun x hx => by
  rw [(rsA_rings hf he 9 (Nat.le_refl _)).2 x hx]
  split
  · rfl
  · next hno =>
    refine (exch_fix hf he hx).2 ((src_self hf hx).1 (Classical.not_not.1 fun hne => hno ?_))
    exact PO.ringsF_in (nice hf) hx (PO.exch_ring hf he hx hne) 9 hx
end
end Go.PS
