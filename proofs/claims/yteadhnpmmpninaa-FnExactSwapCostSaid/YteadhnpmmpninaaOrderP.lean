import Derived.Test.YteadhnpmmpninaaRingI
import Derived.Test.YteadhnpmmpninaaWheelP
import Derived.Test.YteadhnpmmpninaaUndoP
namespace Go.PO
open Go.PM Go.RowKit Go.PW
section
variable {f : Nat → ByteArray} {s : Nat}
theorem wb_some (hf : SV f) (hs : s < 19) {i : Nat} (hi : i + 1 < (way (nxT f) s).length) : (way (nxT f) s)[i] < 9 ∧ sx f (way (nxT f) s)[i] = (way (nxT f) s)[i + 1] := by
  have hr := way_rho (nice hf) hs
  obtain ⟨a, t, e1, e2, e3⟩ := hr.step (j := i) hi
  rw [hr.some_ (j := i) (by omega)] at e1
  rw [hr.some_ (j := i + 1) hi] at e3
  obtain rfl := Option.some.inj e1
  obtain rfl := Option.some.inj e3
  have h9 := (nice hf).low _ _ e2
  refine ⟨h9, ?_⟩
  by_cases e : sx f (way (nxT f) s)[i] = (way (nxT f) s)[i]
  · rw [nxT_stay h9 e] at e2; cases e2
  · rw [nxT_some h9 e] at e2; exact Option.some.inj e2
theorem wb_zero (hf : SV f) (hs : s < 19) (h0 : 0 < (way (nxT f) s).length) : (way (nxT f) s)[0] = s := by
  have hr := way_rho (nice hf) hs
  have := hr.some_ h0
  exact (Option.some.inj this).symm
end
section
variable {nx : Nat → Option Nat}
theorem ringsF_in (hn : Nice nx) {q : Nat} (hq : q < 9) (hr : onRb nx q = true) : ∀ k, q < k → q ∈ (ringsF nx k).flatten := by
  intro k
  induction k with
  | zero => intro h; omega
  | succ k ih =>
    intro h
    by_cases hc : onRb nx k = true ∧ k ∉ (ringsF nx k).flatten
    · rw [ringsF_yes hc.1 hc.2, List.flatten_append, List.mem_append]
      rcases Nat.lt_or_ge q k with h1 | h1
      · exact .inl (ih h1)
      · right
        have : q = k := by omega
        subst this
        obtain ⟨l, hl⟩ := way_first nx q hn (by omega)
        simp [hl]
    · rw [ringsF_no hc]
      rcases Nat.lt_or_ge q k with h1 | h1
      · exact ih h1
      · have : q = k := by omega
        subst this
        exact Classical.not_not.1 fun hm => hc ⟨hr, hm⟩
theorem ringsF_mem2 : ∀ k, ∀ l ∈ ringsF nx k, ∃ s, s < k ∧ l = way nx s ∧ onRb nx s = true ∧ s ∉ (ringsF nx s).flatten := by
  intro k
  induction k with
  | zero => intro l h; simp [ringsF] at h
  | succ k ih =>
    intro l h
    by_cases hc : onRb nx k = true ∧ k ∉ (ringsF nx k).flatten
    · rw [ringsF_yes hc.1 hc.2, List.mem_append] at h
      rcases h with h | h
      · obtain ⟨s, h1, h2⟩ := ih l h; exact ⟨s, by omega, h2⟩
      · simp at h; exact ⟨k, by omega, h, hc⟩
    · rw [ringsF_no hc] at h
      obtain ⟨s, h1, h2⟩ := ih l h; exact ⟨s, by omega, h2⟩
theorem ring_next (hn : Nice nx) {s : Nat} (hs : s < 19) (hr : onRb nx s = true) {x y : Nat} (hx : x ∈ way nx s) (h : nx x = some y) : y ∈ way nx s := by
  have ho := way_rho hn hs
  have e := ho.onR.1 ((onRb_iff hn hs).1 hr)
  obtain ⟨j, hj⟩ := List.getElem?_of_mem hx
  have hjl := (List.getElem?_eq_some_iff.1 hj).1
  rw [ho.at_ j hjl] at hj
  have h2 : orb nx s (j + 1) = some y := by simp only [orb, hj, Option.bind_some]; exact h
  by_cases hl : j + 1 < (way nx s).length
  · rw [ho.some_ hl] at h2
    rw [← Option.some.inj h2]; exact List.getElem_mem hl
  · rw [show j + 1 = (way nx s).length by omega, e] at h2
    obtain rfl := Option.some.inj h2
    exact List.mem_of_getElem? (ho.at_ 0 ho.pos)
theorem ring_orb (hn : Nice nx) {s : Nat} (hs : s < 19) (hr : onRb nx s = true) {x : Nat} (hx : x ∈ way nx s) : ∀ k y, orb nx x k = some y → y ∈ way nx s := by
  intro k
  induction k with
  | zero => intro y h; simp only [orb, Option.some.injEq] at h; rw [← h]; exact hx
  | succ k ih =>
    intro y h
    simp only [orb, Option.bind_eq_some_iff] at h
    obtain ⟨z, h1, h2⟩ := h
    exact ring_next hn hs hr (ih z h1) h2
theorem ring_back (hn : Nice nx) {s : Nat} (hs : s < 19) (hr : onRb nx s = true) {x : Nat} (hx : x ∈ way nx s) : ∃ k, orb nx x k = some s := by
  have ho := way_rho hn hs
  have e := ho.onR.1 ((onRb_iff hn hs).1 hr)
  obtain ⟨j, hj⟩ := List.getElem?_of_mem hx
  have hjl := (List.getElem?_eq_some_iff.1 hj).1
  rw [ho.at_ j hjl] at hj
  refine ⟨(way nx s).length - j, ?_⟩
  have := orb_add (nx := nx) s j ((way nx s).length - j)
  rw [show j + ((way nx s).length - j) = (way nx s).length by omega, e, hj] at this
  exact this.symm

/-- rings have no place in common -/
theorem ringsF_nodup (hn : Nice nx) : ∀ k, k ≤ 9 → (ringsF nx k).flatten.Nodup := by
  intro k
  induction k with
  | zero => intro _; simp [ringsF]
  | succ k ih =>
    intro hk
    by_cases hc : onRb nx k = true ∧ k ∉ (ringsF nx k).flatten
    · rw [ringsF_yes hc.1 hc.2, List.flatten_append, List.nodup_append]
      have hr := way_rho hn (show k < 19 by omega)
      refine ⟨ih (by omega), by simpa using hr.nodup, fun a ha b hb e => ?_⟩
      subst e
      have hb : a ∈ way nx k := by simpa using hb
      obtain ⟨l, hl, hal⟩ := List.mem_flatten.1 ha
      obtain ⟨s', hs', rfl, hr', _⟩ := ringsF_mem2 k l hl
      obtain ⟨m, hm⟩ := ring_back hn (show k < 19 by omega) hc.1 hb
      have := ring_orb hn (show s' < 19 by omega) hr' hal m k hm
      exact hc.2 (List.mem_flatten.2 ⟨_, hl, this⟩)
    · rw [ringsF_no hc]; exact ih (by omega)
structure RingQ (f : Nat → ByteArray) (r : List Nat) : Prop where
  two : 2 ≤ r.length
  low : ∀ i (h : i < r.length), r[i] < 9
  next : ∀ i (h : i < r.length), sx f r[i] = r[(i + 1) % r.length]'(Nat.mod_lt _ (by omega))
  nodup : r.Nodup
theorem ringQ (f : Nat → ByteArray) (hf : SV f) {r : List Nat} (h : r ∈ ringsF (nxT f) 9) : RingQ f r := by
  obtain ⟨s, hs, rfl, hr, hfr⟩ := ringsF_mem2 9 r h
  have hn := nice hf
  have hs19 : s < 19 := by omega
  have ho := way_rho hn hs19
  obtain ⟨i0, h1, h2, h3⟩ := ring_last hf hs19
  obtain ⟨h4, h5, h6⟩ := h3.1 hr
  have hall := ring_all hn hs19 ((onRb_iff hn hs19).1 hr)
  have h0 := wb_zero hf hs19 ho.pos
  refine ⟨h4, fun i hi => ring_low hn (hall _ (List.getElem_mem hi)), fun i hi => ?_, ho.nodup⟩
  by_cases hl : i + 1 < (way (nxT f) s).length
  · rw [(wb_some hf hs19 hl).2]
    congr 1
    exact (Nat.mod_eq_of_lt hl).symm
  · have he : i + 1 = (way (nxT f) s).length := by omega
    have h7 : (way (nxT f) s)[i] = i0 := by
      rw [show (way (nxT f) s).length - 1 = i by omega, List.getElem?_eq_getElem hi] at h1
      exact Option.some.inj h1
    rw [h7, h6]
    have h8 : (i + 1) % (way (nxT f) s).length = 0 := by rw [he, Nat.mod_self]
    simp only [h8]
    exact h0.symm
theorem ring_pow {f : Nat → ByteArray} (hf : SV f) {r : List Nat} (h : RingQ f r) : ∀ n i (hi : i < r.length), pwF (srcT f) n r[i] = nm (r[(i + n) % r.length]'(Nat.mod_lt _ (by omega)))
  | 0, i, hi => by
    show nm r[i] = _
    congr 2
    exact (Nat.mod_eq_of_lt hi).symm
  | n + 1, i, hi => by
    have hp := h.low i hi
    have hm : (i + n) % r.length < r.length := Nat.mod_lt _ (by omega)
    have hq := h.low _ hm
    rw [← pwF_left _ _ _ hp]
    unfold cmpF
    rw [ring_pow hf h n i hi, if_pos (isP_nm hq), pidx_nm hq, ← (sx_lt hf hq).2, h.next _ hm]
    have e : ((i + n) % r.length + 1) % r.length = (i + (n + 1)) % r.length := by rw [Nat.mod_add_mod, Nat.add_assoc]
    simp only [e]
    exact sn_nm _ (h.low _ (Nat.mod_lt _ (by omega)))
theorem ring_dvd {f : Nat → ByteArray} (hf : SV f) {r : List Nat} (h : RingQ f r) (n i : Nat) (hi : i < r.length) : pwF (srcT f) n r[i] = nm r[i] ↔ r.length ∣ n := by
  rw [ring_pow hf h n i hi]
  have hm : (i + n) % r.length < r.length := Nat.mod_lt _ (by omega)
  have e1 : nm (r[(i + n) % r.length]'hm) = nm r[i] ↔ (i + n) % r.length = i := by
    constructor
    · intro e
      exact (List.getElem_inj h.nodup).1 (nm_inj (h.low _ hm) (h.low i hi) e)
    · intro e; simp only [e]
  rw [e1]
  constructor
  · intro e
    have h1 := Nat.div_add_mod (i + n) r.length
    rw [e] at h1
    exact ⟨(i + n) / r.length, by omega⟩
  · rintro ⟨k, rfl⟩
    rw [Nat.add_mul_mod_self_left, Nat.mod_eq_of_lt hi]
theorem stay_pow {S : Nat → ByteArray} {p : Nat} (hp : p < 9) (h : S p = nm p) : ∀ n, pwF S n p = nm p
  | 0 => rfl
  | n + 1 => by
    show cmpF (pwF S n) S p = nm p
    unfold cmpF
    rw [h, if_pos (isP_nm hp), pidx_nm hp, stay_pow hp h n]
/-- in an exchange each place that changes is on a ring -/
theorem exch_ring {f : Nat → ByteArray} (hf : SV f) (he : Exch (srcT f)) {p : Nat} (hp : p < 9) (h : srcT f p ≠ nm p) : onRb (nxT f) p = true := by
  have hn := nice hf
  have hs : p < 19 := by omega
  rw [onRb_iff hn hs]
  have ho := way_rho hn hs
  rw [ho.onR]
  have hlow : ∀ i, i < 9 → sx f i < 9 := fun i hi => by
    have h1 := he.place hi
    have h2 := isP_sidx (s := srcT f i) (by unfold isS; rw [h1]; rfl)
    rw [h1] at h2
    exact of_decide_eq_true h2.symm
  have hsrc : ∀ i, i < 9 → srcT f i = nm (sx f i) := fun i hi => by rw [← sn_nm _ (hlow i hi)]; exact (sx_lt hf hi).2.symm
  have hinj : ∀ i j, i < 9 → j < 9 → sx f i = sx f j → i = j := fun i j hi hj e => he.inj hi hj (by rw [hsrc i hi, hsrc j hj, e])
  have hgo : ∀ k, ∃ i, orb (nxT f) p k = some i ∧ i < 9 ∧ sx f i ≠ i := by
    intro k
    induction k with
    | zero => exact ⟨p, rfl, hp, fun e => h (by rw [hsrc p hp, e])⟩
    | succ k ih =>
      obtain ⟨i, h1, h2, h3⟩ := ih
      refine ⟨sx f i, ?_, hlow i h2, fun e => h3 (hinj _ _ (hlow i h2) h2 e)⟩
      simp only [orb, h1, Option.bind_some]
      exact nxT_some h2 h3
  rcases ho.last with h1 | ⟨mu, hmu, h1⟩
  · obtain ⟨i, h2, _⟩ := hgo (way (nxT f) p).length
    rw [h1] at h2; cases h2
  · rcases Nat.eq_zero_or_pos mu with h0 | h0
    · rw [h1, h0]; rfl
    · exfalso
      obtain ⟨m, rfl⟩ : ∃ m, mu = m + 1 := ⟨mu - 1, by omega⟩
      obtain ⟨n, hn2⟩ : ∃ n, (way (nxT f) p).length = n + 1 := ⟨(way (nxT f) p).length - 1, by omega⟩
      rw [hn2] at h1
      obtain ⟨i, e1, e2, e3⟩ := hgo m
      obtain ⟨j, e4, e5, e6⟩ := hgo n
      simp only [orb, e1, e4, Option.bind_some] at h1
      rw [nxT_some e2 e3, nxT_some e5 e6] at h1
      have := hinj _ _ e5 e2 (Option.some.inj h1)
      have := ho.inj (i := m) (j := n) (by omega) (by omega) (by rw [e1, e4, this])
      omega
def lcmL (l : List Nat) : Nat := l.foldl Nat.lcm 1
theorem lcm_fold_dvd : ∀ (l : List Nat) (a n : Nat), l.foldl Nat.lcm a ∣ n ↔ a ∣ n ∧ ∀ b ∈ l, b ∣ n
  | [], a, n => by simp
  | b :: l, a, n => by
    rw [List.foldl_cons, lcm_fold_dvd l]
    constructor
    · rintro ⟨h1, h2⟩
      refine ⟨Nat.dvd_trans (Nat.dvd_lcm_left a b) h1, fun c hc => ?_⟩
      rw [List.mem_cons] at hc
      rcases hc with rfl | hc
      · exact Nat.dvd_trans (Nat.dvd_lcm_right a c) h1
      · exact h2 c hc
    · rintro ⟨h1, h2⟩
      exact ⟨Nat.lcm_dvd h1 (h2 b (by simp)), fun c hc => h2 c (by simp [hc])⟩
theorem lcmL_dvd (l : List Nat) (n : Nat) : lcmL l ∣ n ↔ ∀ b ∈ l, b ∣ n := by
  unfold lcmL
  rw [lcm_fold_dvd]
  simp
theorem lcm1 : ∀ a, a < 10 → lcmL [a] ≤ 20 := by decide +kernel
theorem lcm2 : ∀ a, a < 10 → ∀ b, b < 10 → a + b ≤ 9 → lcmL [a, b] ≤ 20 := by decide +kernel
theorem lcm3 : ∀ a, a < 8 → ∀ b, b < 8 → ∀ c, c < 8 → a + b + c ≤ 9 → lcmL [a, b, c] ≤ 20 := by decide +kernel
theorem lcm4 : ∀ a, a < 4 → ∀ b, b < 4 → ∀ c, c < 4 → ∀ d, d < 4 → a + b + c + d ≤ 9 → lcmL [a, b, c, d] ≤ 20 := by decide +kernel
theorem lcmL_le (l : List Nat) (h2 : ∀ a ∈ l, 2 ≤ a) (hs : l.sum ≤ 9) : lcmL l ≤ 20 := by
  match l, h2, hs with
  | [], _, _ => decide
  | [a], _, hs => simp at hs; exact lcm1 a (by omega)
  | [a, b], _, hs => simp at hs; exact lcm2 a (by omega) b (by omega) (by omega)
  | [a, b, c], h2, hs =>
    simp at hs h2
    exact lcm3 a (by omega) b (by omega) c (by omega) (by omega)
  | [a, b, c, d], h2, hs =>
    simp at hs h2
    exact lcm4 a (by omega) b (by omega) c (by omega) d (by omega) (by omega)
  | a :: b :: c :: d :: e :: l, h2, hs =>
    simp at hs h2
    omega
theorem lcmL_pos {l : List Nat} (h : ∀ a ∈ l, 0 < a) : 0 < lcmL l := by
  have : ∀ (l : List Nat) (a : Nat), 0 < a → (∀ b ∈ l, 0 < b) → 0 < l.foldl Nat.lcm a := by
    intro l
    induction l with
    | nil => intro a h _; exact h
    | cons b l ih =>
      intro a h1 h2
      exact ih _ (Nat.lcm_pos h1 (h2 b (by simp))) fun c hc => h2 c (by simp [hc])
  exact this l 1 (by decide) h
/-- the least number of times -/
def ordN (f : Nat → ByteArray) : Nat := lcmL ((ringsF (nxT f) 9).map List.length)
theorem flatten_len : ∀ l : List (List Nat), l.flatten.length = (l.map List.length).sum
  | [] => rfl
  | a :: l => by simp [flatten_len l]
theorem rings_sum {f : Nat → ByteArray} (hf : SV f) {l : List (List Nat)} (h : l <+: ringsF (nxT f) 9) : (∀ a ∈ l.map List.length, 2 ≤ a) ∧ (l.map List.length).sum ≤ 9 := by
  constructor
  · intro a ha
    obtain ⟨r, hr, rfl⟩ := List.mem_map.1 ha
    exact (ringQ f hf (h.mem hr)).two
  · have h1 : l.flatten.length ≤ 9 := by
      have h2 := ringsF_nodup (nice hf) 9 (Nat.le_refl _)
      obtain ⟨t, ht⟩ := h
      rw [← ht, List.flatten_append] at h2
      refine nodup_le _ 9 (List.nodup_append.1 h2).1 fun a ha => ?_
      obtain ⟨r, hr, har⟩ := List.mem_flatten.1 ha
      obtain ⟨i, hi⟩ := List.getElem?_of_mem har
      have hil := (List.getElem?_eq_some_iff.1 hi).1
      have := (ringQ f hf (ht ▸ List.mem_append_left t hr)).low i hil
      rw [List.getElem?_eq_getElem hil] at hi
      rw [← Option.some.inj hi]; exact this
    rwa [flatten_len] at h1
theorem ord_pre {f : Nat → ByteArray} (hf : SV f) {l : List (List Nat)} (h : l <+: ringsF (nxT f) 9) : 1 ≤ lcmL (l.map List.length) ∧ lcmL (l.map List.length) ≤ 20 := by
  have h1 := rings_sum hf h
  exact ⟨lcmL_pos fun a ha => by have := h1.1 a ha; omega, lcmL_le _ h1.1 h1.2⟩
theorem ordN_le {f : Nat → ByteArray} (hf : SV f) : 1 ≤ ordN f ∧ ordN f ≤ 20 := ord_pre hf (List.prefix_refl _)
theorem lcmL_snoc (l : List Nat) (a : Nat) : lcmL (l ++ [a]) = Nat.lcm (lcmL l) a := by simp [lcmL]
theorem pow_id_iff {f : Nat → ByteArray} (hf : SV f) (he : Exch (srcT f)) (n : Nat) : (∀ p, p < 9 → pwF (srcT f) n p = nm p) ↔ ordN f ∣ n := by
  have hn := nice hf
  unfold ordN
  rw [lcmL_dvd]
  constructor
  · intro h b hb
    obtain ⟨r, hr, rfl⟩ := List.mem_map.1 hb
    have hq := ringQ f hf hr
    have h0 : 0 < r.length := by have := hq.two; omega
    exact (ring_dvd hf hq n 0 h0).1 (h _ (hq.low 0 h0))
  · intro h p hp
    by_cases hst : srcT f p = nm p
    · exact stay_pow hp hst n
    · have h1 := ringsF_in hn hp (exch_ring hf he hp hst) 9 hp
      obtain ⟨r, hr, hpr⟩ := List.mem_flatten.1 h1
      have hq := ringQ f hf hr
      obtain ⟨i, hi⟩ := List.getElem?_of_mem hpr
      have hil := (List.getElem?_eq_some_iff.1 hi).1
      rw [List.getElem?_eq_getElem hil] at hi
      have e := Option.some.inj hi
      have := (ring_dvd hf hq n i hil).2 (h _ (List.mem_map.2 ⟨r, hr, rfl⟩))
      rwa [e] at this
theorem lsF_emp {S : Nat → ByteArray} : lsF S 9 = [] ↔ ∀ p, p < 9 → S p = nm p := by
  unfold lsF
  rw [List.map_eq_nil_iff, List.filter_eq_nil_iff]
  constructor
  · intro h p hp
    have := h p (by simpa using hp)
    simpa [lsH] using this
  · intro h p hp
    have := h p (by simpa using hp)
    simp [lsH, this]
def ordI (xs : List Mv) : Int := if exchB xs then (ordN (tabOf xs) : Int) else -1
theorem ord_list {xs : List Mv} (h : exchB xs = true) (n : Nat) : lsF (pwF (fun q => srcM xs (nm q)) n) 9 = [] ↔ ordN (tabOf xs) ∣ n := by
  obtain ⟨h1, h2⟩ := exchB_iff.1 h
  rw [← pow_id_iff (SV_tab h1) h2, lsF_emp]
  constructor
  · intro g p hp; rw [pwF_congr (fun q hq => srcT_M h1 hq) n p hp]; exact g p hp
  · intro g p hp; rw [← pwF_congr (fun q hq => srcT_M h1 hq) n p hp]; exact g p hp
end
end Go.PO
