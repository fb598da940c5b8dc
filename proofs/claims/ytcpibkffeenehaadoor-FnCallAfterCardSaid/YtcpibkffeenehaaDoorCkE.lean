import Derived.Test.YtcpibkffeenehaaDoorCkD
import Derived.Test.YtcpibkffeenehaaDoorCkA
import Derived.Test.YtcpibkffeenehaaDoorAhd
import Derived.Test.YtcpibkffeenehaaDoorRow
import Derived.Test.YtcpibkffeenehaaDoorIm2
import Derived.Test.YtcpibkffeenehaaDoorHold
import Derived.Test.YtcpibkffeenehaaDoorSp1
import Derived.Test.YtcpibkffeenehaaDoorCkC
import Derived.Test.YtcpibkffeenehaaDoorTouch
import Derived.Test.YtcpibkffeenehaaDoorApp
import Derived.Test.YtcpibkffeenehaaDoorReaders
import Derived.BigQuiet
import Derived.Test.YtcpibkffeenehaaDoorList
import Derived.Test.YtcpibkffeenehaaDoorBusyP
import Derived.Test.YtcpibkffeenehaaDoorHar
import Derived.Test.YtcpibkffeenehaaDoorCkB
import Derived.ChangeKeysEq
import Derived.Test.YtcpibkffeenehaaDoorClP
namespace Go.PW
open Go.PM Go.RowKit Go.Lib
variable {f : Nat → ByteArray} {s : Nat}
theorem wb_some (hf : SV f) (hs : s < 19) {i : Nat} (hi : i + 1 < (way (nxT f) s).length) : (way (nxT f) s)[i] < 9 ∧ sx f (way (nxT f) s)[i] = (way (nxT f) s)[i + 1] := by
  have hr := way_rho (nice hf) hs
  obtain ⟨a, t, e1, e2, e3⟩ := hr.step (j := i) hi
  rw [hr.some_ (j := i) (by omega)] at e1
  rw [hr.some_ (j := i + 1) hi] at e3
  obtain rfl := Option.some.inj e1
  obtain rfl := Option.some.inj e3
  have h9 := (nice hf).low _ _ e2
  refine ⟨h9, ?_⟩
  by_cases e : sx f (way (nxT f) s)[i] = (way (nxT f) s)[i]
  · rw [nxT_stay h9 e] at e2; cases e2
  · rw [nxT_some h9 e] at e2; exact Option.some.inj e2
theorem wb_zero (hf : SV f) (hs : s < 19) (h0 : 0 < (way (nxT f) s).length) : (way (nxT f) s)[0] = s := by
  have hr := way_rho (nice hf) hs
  have := hr.some_ h0
  exact (Option.some.inj this).symm
theorem wb_wheel (hf : SV f) (hs : s < 9) : ∀ i (hi : i < (way (nxT f) s).length), (way (nxT f) s)[i] < 9 → (way (nxT f) s)[i] ∈ wheelL f s := by
  intro i
  induction i with
  | zero => intro hi h9; rw [wb_zero hf (by omega) hi]; exact wheelL_self hs
  | succ i ih =>
    intro hi h9
    have h1 := wb_some hf (show s < 19 by omega) hi
    have h2 := ih (by omega) h1.1
    refine wheelL_mem.2 ⟨h9, ?_⟩
    rw [← (wheelL_mem.1 h2).2, ← h1.2]
    exact (hd_edge (f := f) 9 _ h1.1 (by rw [h1.2]; exact h9)).symm
theorem wb_fresh (hf : SV f) (hs : s < 19) {i : Nat} (hi : i < (way (nxT f) s).length) : (way (nxT f) s)[i] ∉ (way (nxT f) s).take i := by
  intro hm
  have hr := way_rho (nice hf) hs
  obtain ⟨j, hj⟩ := List.getElem?_of_mem hm
  have hjl := (List.getElem?_eq_some_iff.1 hj).1
  rw [List.length_take] at hjl
  have h2 : (way (nxT f) s)[j]? = some (way (nxT f) s)[i] := by
    rw [List.getElem?_take] at hj
    rw [if_pos (by omega)] at hj
    exact hj
  obtain ⟨h3, h4⟩ := List.getElem?_eq_some_iff.1 h2
  have := (List.getElem_inj hr.nodup).1 h4
  omega
theorem wb_last (hf : SV f) (hs : s < 19) {i : Nat} (hl : (way (nxT f) s)[(way (nxT f) s).length - 1]? = some i) (hi : i < 9) : sx f i ∈ way (nxT f) s := by
  have hr := way_rho (nice hf) hs
  have hp := hr.pos
  have h1 : orb (nxT f) s ((way (nxT f) s).length - 1) = some i := by rw [← hr.at_ _ (by omega)]; exact hl
  have h2 : orb (nxT f) s (way (nxT f) s).length = nxT f i := by
    have : orb (nxT f) s ((way (nxT f) s).length - 1 + 1) = (orb (nxT f) s ((way (nxT f) s).length - 1)).bind (nxT f) := rfl
    rw [show (way (nxT f) s).length - 1 + 1 = (way (nxT f) s).length by omega, h1] at this
    exact this
  by_cases e : sx f i = i
  · rw [e]; exact List.mem_of_getElem? hl
  · rw [nxT_some hi e] at h2
    rcases hr.last with h3 | ⟨mu, hmu, h3⟩
    · rw [h2] at h3; cases h3
    · rw [h2, hr.some_ hmu] at h3
      rw [Option.some.inj h3]
      exact List.getElem_mem hmu
theorem wb_depth (hf : SV f) (hs : s < 19) : depN (nxT f) s < (way (nxT f) s).length := by
  have hr := way_rho (nice hf) hs
  obtain ⟨D, hD, hc⟩ := hr.stops
  have := (depN_stops (nice hf) hs).unique hD
  rcases hc with ⟨_, h⟩ | ⟨h, _⟩ <;> omega
theorem pmH_txt {l : List Nat} (hl : ∀ a ∈ l, a < 19) {i : Nat} (hi : i < 19) : pmH (txt l) (sn i) = decide (i ∈ l) := by
  show pmH (txt l) ⟨#[ch i]⟩ = _
  rw [pmH_one, decide_eq_decide]
  exact txt_mem hl hi
theorem pmI_sn {i : Nat} (hi : i < 19) : pmI (sn i) = if i < 9 then (i : Int) else -1 := by
  unfold pmI
  rw [(ch_all i hi).2.2.1]
  by_cases h : i < 9
  · rw [if_pos (by simpa using h), if_pos h, sn_nm i h, pidx_nm h]
  · rw [if_neg (by simpa using h), if_neg h]
theorem txt_extract (l : List Nat) (j : Nat) (hj : j < l.length) : (txt l).extract j (j + 1) = sn l[j] := by
  have hz := txt_size l
  rw [extract_one _ _ (by omega), txt_list, List.getD_eq_getElem?_getD, List.getElem?_map, List.getElem?_eq_getElem hj]; rfl
theorem txt_take (l : List Nat) (j : Nat) : (txt l).extract 0 j = txt (l.take j) := by
  apply ByteArray.ext
  rw [ByteArray.data_extract]
  apply Array.ext'
  simp [txt, List.extract_eq_take_drop, List.map_take]
end Go.PW
namespace Go.Proofs.YtcpibkffeenehaaDoor
open Go.RowKit Go.PM Go.PW
theorem wb_all {xs : List Mv} (h : MV xs) {a : ByteArray} (ha : isP a = true) : ∃ (wy wh : List Nat) (s0 D : Nat), s0 < 9 ∧ a = sn s0 ∧ wayB xs a = txt wy ∧ whB xs a = txt wh ∧ depthI xs a = (D : Int) ∧ wy.length ≤ 19 ∧ 0 < wy.length ∧ (∀ x ∈ wy, x < 19) ∧
    (∀ i (hi : i + 1 < wy.length), wy[i] < 9 ∧ sx (tabOf xs) wy[i] = wy[i + 1]) ∧ (∀ i (hi : i < wy.length), wy[i] < 9 → wy[i] ∈ wh) ∧ (∀ i (hi : i < wy.length), wy[i] ∉ wy.take i) ∧
    (∀ i, wy[wy.length - 1]? = some i → i < 9 → sx (tabOf xs) i ∈ wy) ∧ (∀ hi : 0 < wy.length, wy[0] = s0) ∧ D < wy.length ∧ (∀ x ∈ wh, x < 19) ∧ wh.length ≤ 9 := by
  have hf := SV_tab h
  have hs9 := (pidx_spec ha).1
  have hs : pidx a < 19 := by omega
  have hm : mvalid xs = true := by simpa [mvalid] using h
  have hr := way_rho (nice hf) hs
  refine ⟨way (nxT (tabOf xs)) (pidx a), wheelL (tabOf xs) (pidx a), pidx a, depN (nxT (tabOf xs)) (pidx a), hs9, isP_sn ha, rfl, rfl, ?_, hr.len, hr.pos, hr.lt, fun i hi => wb_some hf hs hi, wb_wheel hf hs9, fun i hi => wb_fresh hf hs hi, fun i hl hi => wb_last hf hs hl hi, fun hi => wb_zero hf hs hi, wb_depth hf hs, fun x hx => by have := wheelL_lt x hx; omega, wheelL_len _⟩
  unfold depthI
  rw [hm, ha]; rfl
end Go.Proofs.YtcpibkffeenehaaDoor
namespace Go.PW
open Go.PM Go.RowKit
variable {nx : Nat → Option Nat}
theorem ringsF_in (hn : Nice nx) {q : Nat} (hq : q < 9) (hr : onRb nx q = true) : ∀ k, q < k → q ∈ (ringsF nx k).flatten := by
  intro k
  induction k with
  | zero => intro h; omega
  | succ k ih =>
    intro h
    by_cases hc : onRb nx k = true ∧ k ∉ (ringsF nx k).flatten
    · rw [ringsF_yes hc.1 hc.2, List.flatten_append, List.mem_append]
      rcases Nat.lt_or_ge q k with h1 | h1
      · exact .inl (ih h1)
      · right
        have : q = k := by omega
        subst this
        obtain ⟨l, hl⟩ := way_first nx q hn (by omega)
        simp [hl]
    · rw [ringsF_no hc]
      rcases Nat.lt_or_ge q k with h1 | h1
      · exact ih h1
      · have : q = k := by omega
        subst this
        exact Classical.not_not.1 fun hm => hc ⟨hr, hm⟩
theorem ringsF_mem2 : ∀ k, ∀ l ∈ ringsF nx k, ∃ s, s < k ∧ l = way nx s ∧ onRb nx s = true ∧ s ∉ (ringsF nx s).flatten := by
  intro k
  induction k with
  | zero => intro l h; simp [ringsF] at h
  | succ k ih =>
    intro l h
    by_cases hc : onRb nx k = true ∧ k ∉ (ringsF nx k).flatten
    · rw [ringsF_yes hc.1 hc.2, List.mem_append] at h
      rcases h with h | h
      · obtain ⟨s, h1, h2⟩ := ih l h; exact ⟨s, by omega, h2⟩
      · simp at h; exact ⟨k, by omega, h, hc⟩
    · rw [ringsF_no hc] at h
      obtain ⟨s, h1, h2⟩ := ih l h; exact ⟨s, by omega, h2⟩
theorem ring_next (hn : Nice nx) {s : Nat} (hs : s < 19) (hr : onRb nx s = true) {x y : Nat} (hx : x ∈ way nx s) (h : nx x = some y) : y ∈ way nx s := by
  have ho := way_rho hn hs
  have e := ho.onR.1 ((onRb_iff hn hs).1 hr)
  obtain ⟨j, hj⟩ := List.getElem?_of_mem hx
  have hjl := (List.getElem?_eq_some_iff.1 hj).1
  rw [ho.at_ j hjl] at hj
  have h2 : orb nx s (j + 1) = some y := by simp only [orb, hj, Option.bind_some]; exact h
  by_cases hl : j + 1 < (way nx s).length
  · rw [ho.some_ hl] at h2
    rw [← Option.some.inj h2]; exact List.getElem_mem hl
  · rw [show j + 1 = (way nx s).length by omega, e] at h2
    obtain rfl := Option.some.inj h2
    exact List.mem_of_getElem? (ho.at_ 0 ho.pos)
theorem ring_orb (hn : Nice nx) {s : Nat} (hs : s < 19) (hr : onRb nx s = true) {x : Nat} (hx : x ∈ way nx s) : ∀ k y, orb nx x k = some y → y ∈ way nx s := by
  intro k
  induction k with
  | zero => intro y h; simp only [orb, Option.some.injEq] at h; rw [← h]; exact hx
  | succ k ih =>
    intro y h
    simp only [orb, Option.bind_eq_some_iff] at h
    obtain ⟨z, h1, h2⟩ := h
    exact ring_next hn hs hr (ih z h1) h2
theorem ring_back (hn : Nice nx) {s : Nat} (hs : s < 19) (hr : onRb nx s = true) {x : Nat} (hx : x ∈ way nx s) : ∃ k, orb nx x k = some s := by
  have ho := way_rho hn hs
  have e := ho.onR.1 ((onRb_iff hn hs).1 hr)
  obtain ⟨j, hj⟩ := List.getElem?_of_mem hx
  have hjl := (List.getElem?_eq_some_iff.1 hj).1
  rw [ho.at_ j hjl] at hj
  refine ⟨(way nx s).length - j, ?_⟩
  have := orb_add (nx := nx) s j ((way nx s).length - j)
  rw [show j + ((way nx s).length - j) = (way nx s).length by omega, e, hj] at this
  exact this.symm
/-- the first place of a ring is its least -/
theorem ring_min (hn : Nice nx) {s : Nat} (hs : s < 9) (hr : onRb nx s = true) (hf : s ∉ (ringsF nx s).flatten) : ∀ q ∈ way nx s, s ≤ q := by
  intro q hq
  rcases Nat.lt_or_ge q s with hlt | hge
  · exfalso
    have hoq := ring_all hn (by omega) ((onRb_iff hn (by omega)).1 hr) q hq
    have hrq := (onRb_iff hn (show q < 19 by omega)).2 hoq
    have h1 := ringsF_in hn (by omega) hrq s hlt
    obtain ⟨l, hl, hql⟩ := List.mem_flatten.1 h1
    obtain ⟨s', hs', rfl, hr', _⟩ := ringsF_mem2 s l hl
    obtain ⟨k, hk⟩ := ring_back hn (show s < 19 by omega) hr hq
    have := ring_orb hn (show s' < 19 by omega) hr' hql k s hk
    exact hf (List.mem_flatten.2 ⟨_, hl, this⟩)
  · exact hge
theorem ringsF_sorted (hn : Nice nx) : ∀ k, k ≤ 9 → (ringsF nx k).Pairwise (fun a b => ∀ x y, a.head? = some x → b.head? = some y → x < y) := by
  intro k
  induction k with
  | zero => intro _; simp [ringsF]
  | succ k ih =>
    intro hk
    by_cases hc : onRb nx k = true ∧ k ∉ (ringsF nx k).flatten
    · rw [ringsF_yes hc.1 hc.2, List.pairwise_append]
      refine ⟨ih (by omega), by simp, fun a ha b hb x y hx hy => ?_⟩
      simp at hb
      subst hb
      obtain ⟨l, hl⟩ := way_first nx k hn (by omega)
      rw [hl] at hy
      simp at hy
      obtain ⟨s, hs, rfl, _⟩ := ringsF_mem2 k a ha
      obtain ⟨l2, hl2⟩ := way_first nx s hn (by omega)
      rw [hl2] at hx
      simp at hx
      omega
    · rw [ringsF_no hc]; exact ih (by omega)
theorem filter_at {α : Type _} (p : α → Bool) : ∀ (l : List α) (n : Nat) (h : n < l.length), p l[n] = true → (l.filter p)[((l.take n).filter p).length]? = some l[n]
  | [], n, h, _ => by simp at h
  | a :: l, 0, _, hp => by
    have hp : p a = true := hp
    simp [hp]
  | a :: l, n + 1, h, hp => by
    have h' : n < l.length := by simpa using h
    have hp : p l[n] = true := hp
    have ih := filter_at p l n h' hp
    by_cases ha : p a = true
    · simp [ha]; exact ih
    · simp [ha]; exact ih
/-- what there is to say of a ring -/
structure RingR (f : Nat → ByteArray) (r : List Nat) : Prop where
  two : 2 ≤ r.length
  le : r.length ≤ 19
  low : ∀ i (h : i < r.length), r[i] < 9
  next : ∀ i (h : i < r.length), sx f r[i] = r[(i + 1) % r.length]'(Nat.mod_lt _ (by omega))
  dep : ∀ i (h : i < r.length), depN (nxT f) r[i] = 0
  min : ∀ i (h : i < r.length), r[0]'(by omega) ≤ r[i]
theorem ringR (f : Nat → ByteArray) (hf : SV f) {r : List Nat} (h : r ∈ ringsF (nxT f) 9) : RingR f r := by
  obtain ⟨s, hs, rfl, hr, hfr⟩ := ringsF_mem2 9 r h
  have hn := nice hf
  have hs19 : s < 19 := by omega
  have ho := way_rho hn hs19
  obtain ⟨i0, h1, h2, h3⟩ := ring_last hf hs19
  obtain ⟨h4, h5, h6⟩ := h3.1 hr
  have hall := ring_all hn hs19 ((onRb_iff hn hs19).1 hr)
  have h0 := wb_zero hf hs19 ho.pos
  refine ⟨h4, ho.len, fun i hi => ring_low hn (hall _ (List.getElem_mem hi)), fun i hi => ?_, fun i hi => ?_, fun i hi => ?_⟩
  · by_cases hl : i + 1 < (way (nxT f) s).length
    · rw [(wb_some hf hs19 hl).2]
      congr 1
      exact (Nat.mod_eq_of_lt hl).symm
    · have he : i + 1 = (way (nxT f) s).length := by omega
      have h7 : (way (nxT f) s)[i] = i0 := by
        rw [show (way (nxT f) s).length - 1 = i by omega, List.getElem?_eq_getElem hi] at h1
        exact Option.some.inj h1
      rw [h7, h6]
      have h8 : (i + 1) % (way (nxT f) s).length = 0 := by rw [he, Nat.mod_self]
      simp only [h8]
      exact h0.symm
  · have h7 := hall _ (List.getElem_mem hi)
    have hx := ho.lt _ (List.getElem_mem hi)
    refine (depN_stops hn hx).unique ⟨by omega, fun j hj => by omega, _, rfl, .inr h7⟩
  · rw [h0]; exact ring_min hn hs hr hfr _ (List.getElem_mem hi)
end Go.PW
namespace Go.PM
open Go.RowKit
/-- an array of nine numbers -/
def cntC (f : Nat → Nat) : Array Value := #[.int .i64 (f 0 : Nat), .int .i64 (f 1 : Nat), .int .i64 (f 2 : Nat), .int .i64 (f 3 : Nat), .int .i64 (f 4 : Nat), .int .i64 (f 5 : Nat), .int .i64 (f 6 : Nat), .int .i64 (f 7 : Nat), .int .i64 (f 8 : Nat)]
theorem cntC_at (f : Nat → Nat) (p : Nat) (hp : p < 9) : (cntC f)[p]? = some (.int .i64 (f p : Nat)) := by
  match p, hp with
  | 0, _ | 1, _ | 2, _ | 3, _ | 4, _ | 5, _ | 6, _ | 7, _ | 8, _ => rfl
theorem cntC_set (f : Nat → Nat) (p : Nat) (hp : p < 9) (n : Nat) : (cntC f).setIfInBounds p (.int .i64 (n : Nat)) = cntC (fun q => if q = p then n else f q) := by
  match p, hp with
  | 0, _ | 1, _ | 2, _ | 3, _ | 4, _ | 5, _ | 6, _ | 7, _ | 8, _ => simp [cntC]
theorem cntC_congr {f g : Nat → Nat} (h : ∀ p, p < 9 → f p = g p) : cntC f = cntC g := by
  unfold cntC
  rw [h 0 (by omega), h 1 (by omega), h 2 (by omega), h 3 (by omega), h 4 (by omega), h 5 (by omega), h 6 (by omega), h 7 (by omega), h 8 (by omega)]
theorem cntC_one (f : Nat → Nat) : (cntC f).all (·.oneCell') = true := by simp [cntC, Value.oneCell']
/-- how many of the moves read each place -/
def cntF (xs : List Mv) (p : Nat) : Nat := rdN xs (nm p)
theorem rdN_snoc (xs : List Mv) (x : Mv) (a : ByteArray) : rdN (xs ++ [x]) a = rdN xs a + if x.2 = a then 1 else 0 := by
  unfold rdN
  rw [List.map_append, List.count_append, List.map_cons, List.map_nil, List.count_cons]
  simp
theorem rdN_le (xs : List Mv) (a : ByteArray) : rdN xs a ≤ xs.length := by
  unfold rdN
  have := List.count_le_length (a := a) (l := xs.map (·.2))
  simpa using this
theorem cntF_yes (xs : List Mv) (x : Mv) (h : isP x.2 = true) : cntC (fun q => if q = pidx x.2 then cntF xs (pidx x.2) + 1 else cntF xs q) = cntC (cntF (xs ++ [x])) := by
  refine cntC_congr fun p hp => ?_
  have hx := pidx_spec h
  unfold cntF
  rw [rdN_snoc]
  by_cases e : p = pidx x.2
  · subst e
    rw [if_pos rfl, if_pos hx.2.symm]
  · rw [if_neg e, if_neg (fun e2 => e (by rw [e2, pidx_nm hp]))]; rfl
theorem cntF_no (xs : List Mv) (x : Mv) (h : isP x.2 = false) : cntC (cntF xs) = cntC (cntF (xs ++ [x])) := by
  refine cntC_congr fun p hp => ?_
  unfold cntF
  rw [rdN_snoc, if_neg (fun e => by rw [e, isP_nm hp] at h; cases h)]; rfl
end Go.PM
namespace Go.Proofs.YtcpibkffeenehaaDoor
open Go.RowKit Go.PM

/-- whether a move can be done ahead of those that are counted -/
def aheadP (xs : List Mv) (m : Mv) : Bool := decide (rdN xs m.1 = 0)
end Go.Proofs.YtcpibkffeenehaaDoor
namespace Go.PM
open Go.RowKit
/-- a move that changes what a later one reads -/
def BadO (x m : Mv) : Prop := x.1 = m.2 ∧ x.2 ≠ m.2 ∧ isD m.2 = false
instance (x m : Mv) : Decidable (BadO x m) := inferInstanceAs (Decidable (_ ∧ _))
def GoodO (xs : List Mv) : Prop := xs.Pairwise fun x m => ¬ BadO x m
instance (xs : List Mv) : Decidable (GoodO xs) := inferInstanceAs (Decidable (List.Pairwise _ _))
def ordB (xs : List Mv) : Bool := mvalid xs && decide (GoodO xs)
theorem GoodO_step (xs : List Mv) (k : Nat) (hk : k < xs.length) : GoodO (xs.take (k + 1)) ↔ GoodO (xs.take k) ∧ ∀ x ∈ xs.take k, ¬ BadO x xs[k] := by
  unfold GoodO
  rw [take_snoc xs k hk, List.pairwise_append]
  simp
theorem GoodO_take {xs : List Mv} (h : GoodO xs) (k : Nat) : GoodO (xs.take k) := List.Pairwise.sublist (List.take_sublist _ _) h
theorem ordB_no {xs : List Mv} {k : Nat} (h : ¬ GoodO (xs.take k)) : ordB xs = false := by
  unfold ordB
  rw [decide_eq_false (fun hg => h (GoodO_take hg k)), Bool.and_false]
/-- which places the moves change -/
def chgF (xs : List Mv) (q : Nat) : Bool := xs.any fun x => decide (x.1 = nm q ∧ x.1 ≠ x.2)
def boolC (f : Nat → Bool) : Array Value := #[.bool (f 0), .bool (f 1), .bool (f 2), .bool (f 3), .bool (f 4), .bool (f 5), .bool (f 6), .bool (f 7), .bool (f 8)]
theorem boolC_at (f : Nat → Bool) (p : Nat) (hp : p < 9) : (boolC f)[p]? = some (.bool (f p)) := by
  match p, hp with
  | 0, _ | 1, _ | 2, _ | 3, _ | 4, _ | 5, _ | 6, _ | 7, _ | 8, _ => rfl
theorem boolC_set (f : Nat → Bool) (p : Nat) (hp : p < 9) (b : Bool) : (boolC f).setIfInBounds p (.bool b) = boolC (fun q => if q = p then b else f q) := by
  match p, hp with
  | 0, _ | 1, _ | 2, _ | 3, _ | 4, _ | 5, _ | 6, _ | 7, _ | 8, _ => simp [boolC]
theorem boolC_congr {f g : Nat → Bool} (h : ∀ p, p < 9 → f p = g p) : boolC f = boolC g := by
  unfold boolC
  rw [h 0 (by omega), h 1 (by omega), h 2 (by omega), h 3 (by omega), h 4 (by omega), h 5 (by omega), h 6 (by omega), h 7 (by omega), h 8 (by omega)]
theorem chgF_step {xs : List Mv} (h : MV xs) (k : Nat) (hk : k < xs.length) : boolC (fun q => if q = pidx xs[k].1 then decide (xs[k].1 ≠ xs[k].2) else chgF (xs.take k) q) = boolC (chgF (xs.take (k + 1))) := by
  have hm := h.1 _ (List.getElem_mem hk)
  unfold mok at hm; rw [Bool.and_eq_true] at hm
  have hp := pidx_spec hm.1
  have hkey := ((MV_step k hk).1 (MV_take h (k + 1))).2.2
  refine boolC_congr fun q hq => ?_
  unfold chgF
  rw [take_snoc xs k hk, List.any_append, List.any_cons, List.any_nil, Bool.or_false]
  by_cases e : q = pidx xs[k].1
  · subst e
    rw [if_pos rfl, hp.2]
    have h0 : (xs.take k).any (fun x => decide (x.1 = xs[k].1 ∧ x.1 ≠ x.2)) = false := by
      rw [List.any_eq_false]
      intro x hx e2
      rw [decide_eq_true_eq] at e2
      exact hkey (List.mem_map.2 ⟨x, hx, e2.1⟩)
    rw [h0, Bool.false_or, decide_eq_decide]
    exact ⟨fun h => ⟨rfl, h⟩, fun h => h.2⟩
  · rw [if_neg e]
    have : decide (xs[k].1 = nm q ∧ xs[k].1 ≠ xs[k].2) = false := by
      rw [decide_eq_false_iff_not]
      intro h2
      exact e (by rw [h2.1, pidx_nm hq])
    rw [this, Bool.or_false]
theorem chg_bad {xs : List Mv} (k : Nat) (hk : k < xs.length) (hp : isP xs[k].2 = true) (hc : chgF (xs.take k) (pidx xs[k].2) = true) : ¬ GoodO (xs.take (k + 1)) := by
  rw [GoodO_step xs k hk]
  rintro ⟨_, h⟩
  unfold chgF at hc
  rw [(pidx_spec hp).2, List.any_eq_true] at hc
  obtain ⟨x, hx, e⟩ := hc
  rw [decide_eq_true_eq] at e
  exact h x hx ⟨e.1, fun e2 => e.2 (e.1.trans e2.symm), (isP_cases hp).1⟩
theorem chg_good {xs : List Mv} (k : Nat) (hk : k < xs.length) (hg : GoodO (xs.take k)) (hc : isP xs[k].2 = true → chgF (xs.take k) (pidx xs[k].2) = false) (hs : isS xs[k].2 = true) : GoodO (xs.take (k + 1)) := by
  rw [GoodO_step xs k hk]
  refine ⟨hg, fun x hx hb => ?_⟩
  unfold isS at hs
  rw [Bool.or_eq_true] at hs
  rcases hs with hp | hd
  · have := hc hp
    unfold chgF at this
    rw [(pidx_spec hp).2, List.any_eq_false] at this
    exact this x hx (by rw [decide_eq_true_eq]; exact ⟨hb.1, fun e => hb.2.1 (e.symm.trans hb.1)⟩)
  · rw [hb.2.2] at hd; cases hd
end Go.PM
namespace Go.Proofs.YtcpibkffeenehaaDoor
open Go.RowKit Go.PM

end Go.Proofs.YtcpibkffeenehaaDoor
namespace Go.PM
open Go.RowKit Go.PW
/-- moves that can be done as they stand do themselves -/
theorem ord_run {xs : List Mv} (h : MV xs) (hg : GoodO xs) : ∀ k, k ≤ xs.length → ∀ p, p < 9 → runM (xs.take k) nmT p = if nm p ∈ (xs.take k).map (·.1) then rdS nmT (srcM xs (nm p)) else nmT p := by
  intro k
  induction k with
  | zero => intro _ p _; simp [runM]
  | succ k ih =>
    intro hk p hp
    have hlt : k < xs.length := by omega
    have ih := ih (by omega)
    have hm := h.1 _ (List.getElem_mem hlt)
    unfold mok at hm; rw [Bool.and_eq_true] at hm
    have hP := pidx_spec hm.1
    have hC := cidx_P hm.1
    have hsrc : srcM xs xs[k].1 = xs[k].2 := srcM_of_mem h (List.getElem_mem hlt)
    have hgk := (GoodO_step xs k hlt).1 (GoodO_take hg (k + 1))
    -- what the move reads is as at the start
    have hrd : rdS (runM (xs.take k) nmT) xs[k].2 = rdS nmT xs[k].2 := by
      rcases Bool.eq_false_or_eq_true (isC xs[k].2) with hc | hc
      · rw [rdS_cell hc, rdS_cell hc]
        have hp2 : isP xs[k].2 = true := by
          have hs := hm.2
          unfold isS at hs
          rw [Bool.or_eq_true] at hs
          rcases hs with hs | hs
          · exact hs
          · rw [isD_notC hs] at hc; cases hc
        have hq := cidx_P hp2
        rw [ih _ hq.2.1, hq.2.2]
        split
        · next hin =>
          obtain ⟨x, hx, ex⟩ := List.mem_map.1 hin
          have hnb := hgk.2 x hx
          have hx2 : x.2 = xs[k].2 := Classical.not_not.1 fun hne => hnb ⟨ex, hne, (isP_cases hp2).1⟩
          have hxs : srcM xs x.1 = x.2 := srcM_of_mem h (List.mem_of_mem_take hx)
          have ex' : x.1 = xs[k].2 := ex
          rw [ex'] at hxs
          rw [hxs, hx2, rdS_cell hc]
        · rfl
      · rw [rdS_digit hc, rdS_digit hc]
    have hrun : runM (xs.take (k + 1)) nmT = updS (runM (xs.take k) nmT) (cidx xs[k].1) (rdS (runM (xs.take k) nmT) xs[k].2) := by
      unfold runM
      rw [take_snoc xs k hlt, List.foldl_append]; rfl
    rw [hrun, hrd]
    have hkeys : nm p ∈ (xs.take (k + 1)).map (·.1) ↔ nm p ∈ (xs.take k).map (·.1) ∨ nm p = xs[k].1 := by
      rw [take_snoc xs k hlt, List.map_append, List.mem_append]; simp
    by_cases e : nm p = xs[k].1
    · have hpc : cidx xs[k].1 = p := by rw [← e, (cidx_nm hp).2]
      rw [updS, if_pos hpc.symm, if_pos (hkeys.2 (.inr e)), e, hsrc]
    · have hpc : p ≠ cidx xs[k].1 := fun e2 => e (by rw [e2]; exact hC.2.2)
      rw [updS, if_neg hpc, ih p hp]
      by_cases hin : nm p ∈ (xs.take k).map (·.1)
      · rw [if_pos hin, if_pos (hkeys.2 (.inl hin))]
      · rw [if_neg hin, if_neg (fun h2 => (hkeys.1 h2).elim hin e)]
theorem ord_right {xs : List Mv} (h : ordB xs = true) : irB (stL xs) xs = true := by
  unfold ordB at h
  rw [Bool.and_eq_true, decide_eq_true_eq] at h
  have hMV : MV xs := by simpa [mvalid] using h.1
  have hl := MV_len hMV
  refine right_of_run (svalid_stL (by omega) fun m hm => ?_) hMV fun p hp => ?_
  · have := hMV.1 m hm
    unfold mok isS at this
    rw [Bool.and_eq_true, Bool.or_eq_true] at this
    refine ⟨.inl this.1, ?_⟩
    rcases this.2 with h2 | h2
    · exact .inl h2
    · exact .inr (.inl h2)
  · have := ord_run hMV h.2 xs.length (Nat.le_refl _) p hp
    rw [List.take_length] at this
    rw [this]
    split
    · rfl
    · next hn =>
      have : srcM xs (nm p) = nm p := srcM_none hn
      rw [this, rdS_nm nmT hp]
/-- what is taken ahead: no taken move's place is read by a later one -/
theorem takF_facts : ∀ (n : Nat) (ws : List Mv), (ws.map (·.1)).Nodup → (takF n ws).Pairwise (fun x m => x.1 ≠ m.2) ∧ ((takF n ws).map (·.1)).Nodup ∧ (∀ m ∈ takF n ws, m ∈ ws) ∧ (ws.length ≤ n → (takF n ws).length = ws.length → ∀ m ∈ ws, m ∈ takF n ws)
  | 0, ws, _ => by
    refine ⟨List.Pairwise.nil, List.nodup_nil, fun m h => (by cases h), fun h _ m hm => ?_⟩
    have : ws = [] := List.length_eq_zero_iff.1 (by omega)
    rw [this] at hm; cases hm
  | n + 1, ws, hk => by
    cases ha : aheadI ws with
    | none =>
      rw [takF_none ha]
      refine ⟨List.Pairwise.nil, List.nodup_nil, fun m h => (by cases h), fun _ h m hm => ?_⟩
      have : ws = [] := List.length_eq_zero_iff.1 h.symm
      rw [this] at hm; cases hm
    | some i =>
      obtain ⟨hi, hf⟩ := aheadI_some ha
      rw [takF_some hi ha]
      have hk2 : ((ws.eraseIdx i).map (·.1)).Nodup := hk.sublist ((List.eraseIdx_sublist ws i).map _)
      obtain ⟨f1, f2, f3, f4⟩ := takF_facts n (ws.eraseIdx i) hk2
      refine ⟨List.Pairwise.cons (fun m hm e => rdN_zero.1 hf m (erase_mem (f3 m hm)) e.symm) f1, ?_, fun m hm => ?_, fun hl he m hm => ?_⟩
      · rw [List.map_cons, List.nodup_cons]
        refine ⟨fun hmem => ?_, f2⟩
        obtain ⟨x, hx, e⟩ := List.mem_map.1 hmem
        exact erase_key hk hi x (f3 x hx) e
      · rw [List.mem_cons] at hm
        rcases hm with rfl | hm
        · exact List.getElem_mem hi
        · exact erase_mem (f3 m hm)
      · rw [List.length_cons] at he
        have hle : (ws.eraseIdx i).length = ws.length - 1 := List.length_eraseIdx_of_lt hi
        rw [List.mem_cons]
        rcases erase_or hi hm with h2 | h2
        · exact .inl h2
        · exact .inr (f4 (by omega) (by omega) m h2)
theorem busyF_MV {xs : List Mv} (h : MV xs) : MV (busyF xs 9) := by
  have hl : busyF xs 9 = lsF (fun p => srcM xs (nm p)) 9 := rfl
  rw [hl]; exact lsF_MV (SVal_M h)
theorem busyF_mem {xs : List Mv} (h : MV xs) (m : Mv) : m ∈ busyF xs 9 ↔ m ∈ xs ∧ m.1 ≠ m.2 := by
  have hl : busyF xs 9 = lsF (fun p => srcM xs (nm p)) 9 := rfl
  rw [hl]
  constructor
  · intro hm
    obtain ⟨p, _, hne, e⟩ := lsF_mem hm
    rw [e]
    exact ⟨mem_of_srcM hne, fun e => hne e.symm⟩
  · rintro ⟨hm, hne⟩
    have hok := h.1 m hm
    unfold mok at hok; rw [Bool.and_eq_true] at hok
    have hp := pidx_spec hok.1
    have hs := srcM_of_mem h hm
    refine List.mem_map.2 ⟨pidx m.1, List.mem_filter.2 ⟨List.mem_range.2 hp.1, ?_⟩, ?_⟩
    · unfold lsH
      simp only [hp.2, hs, decide_eq_true_eq]
      exact fun e => hne e.symm
    · simp only [hp.2, hs]
theorem wsp_good {xs : List Mv} (h : wspB xs = true) : ordB (wspM xs) = true ∧ sameM (wspM xs) xs = true := by
  have hw : wspM xs = takM xs := by unfold wspM; rw [if_pos h]
  unfold wspB at h
  rw [Bool.and_eq_true, decide_eq_true_eq] at h
  have hMV : MV xs := by simpa [mvalid] using h.1
  have hB := busyF_MV hMV
  obtain ⟨f1, f2, f3, f4⟩ := takF_facts 9 (busyF xs 9) hB.2
  have hT : MV (takM xs) := ⟨fun m hm => hB.1 m (f3 m hm), f2⟩
  rw [hw]
  constructor
  · unfold ordB
    rw [Bool.and_eq_true, decide_eq_true_eq]
    refine ⟨by simpa [mvalid] using hT, List.Pairwise.imp ?_ f1⟩
    intro x m hne hb
    exact hne hb.1
  · have h4 := f4 (busyF_len xs 9) h.2
    have key : ∀ a, srcM (takM xs) a = srcM xs a := fun a => by
      by_cases h0 : srcM (takM xs) a = a
      · by_cases h1 : srcM xs a = a
        · rw [h0, h1]
        · have h3 := mem_of_srcM h1
          exact srcM_of_mem hT (h4 _ ((busyF_mem hMV (a, srcM xs a)).2 ⟨h3, fun e => h1 e.symm⟩))
      · have h3 := f3 _ (mem_of_srcM h0)
        exact (srcM_of_mem hMV ((busyF_mem hMV _).1 h3).1).symm
    unfold sameM
    rw [show mvalid (takM xs) = true by simpa [mvalid] using hT, h.1, Bool.true_and, Bool.true_and, List.all_eq_true]
    intro p _
    unfold sameAt
    rw [key, decide_eq_true rfl]
/-- moves that wait for one another are never taken -/
theorem takF_ring (R : Mv → Prop) : ∀ (n : Nat) (ws : List Mv), (∃ m, R m) → (∀ m, R m → m ∈ ws ∧ ∃ x, R x ∧ x.2 = m.1) → (takF n ws).length < ws.length
  | 0, ws, ⟨m, hm⟩, hR => by
    have := List.length_pos_of_mem (hR m hm).1
    exact this
  | n + 1, ws, hne, hR => by
    cases ha : aheadI ws with
    | none =>
      rw [takF_none ha]
      obtain ⟨m, hm⟩ := hne
      exact List.length_pos_of_mem (hR m hm).1
    | some i =>
      obtain ⟨hi, hf⟩ := aheadI_some ha
      rw [takF_some hi ha, List.length_cons]
      have hz := rdN_zero.1 hf
      have := takF_ring R n (ws.eraseIdx i) hne (fun m hm => by
        obtain ⟨h1, x, hx, ex⟩ := hR m hm
        refine ⟨?_, x, hx, ex⟩
        rcases erase_or hi h1 with e | e
        · exact absurd (by rw [ex, e]) (hz x (hR x hx).1)
        · exact e)
      rw [List.length_eraseIdx_of_lt hi] at this
      omega
/-- where not all are taken, some wait for one another -/
theorem takF_left : ∀ (n : Nat) (ws : List Mv), Wt ws → ws.length ≤ n → (takF n ws).length < ws.length → ∃ vs : List Mv, vs ≠ [] ∧ (∀ m ∈ vs, m ∈ ws) ∧ ∀ m ∈ vs, ∃ x ∈ vs, x.1 = m.2
  | 0, ws, _, hl, h => by omega
  | n + 1, ws, hw, hl, h => by
    cases ha : aheadI ws with
    | none =>
      rw [takF_none ha] at h
      refine ⟨ws, fun e => by rw [e] at h; simp at h, fun m hm => hm, (hw.full ha).2.1⟩
    | some i =>
      obtain ⟨hi, hf⟩ := aheadI_some ha
      rw [takF_some hi ha, List.length_cons] at h
      have hle : (ws.eraseIdx i).length = ws.length - 1 := List.length_eraseIdx_of_lt hi
      obtain ⟨vs, h1, h2, h3⟩ := takF_left n (ws.eraseIdx i) (hw.erase i) (by omega) (by omega)
      exact ⟨vs, h1, fun m hm => erase_mem (h2 m hm), h3⟩
theorem busy_nx {xs : List Mv} (h : MV xs) {m : Mv} (hm : m ∈ busyF xs 9) : nxT (tabOf xs) (pidx m.1) = some (sidx m.2) ∧ isP m.1 = true ∧ m.2 = sn (sidx m.2) ∧ sidx m.2 < 19 := by
  have hB := (busyF_MV h).1 m hm
  unfold mok at hB; rw [Bool.and_eq_true] at hB
  have hp := pidx_spec hB.1
  have hs := sidx_spec hB.2
  have hx := (busyF_mem h m).1 hm
  have hsrc : srcT (tabOf xs) (pidx m.1) = m.2 := by rw [srcM_place h hB.1, srcM_of_mem h hx.1]
  have hsx : sx (tabOf xs) (pidx m.1) = sidx m.2 := by unfold sx; rw [hsrc]
  refine ⟨?_, hB.1, hs.2.symm, hs.1⟩
  rw [nxT_some hp.1 (by rw [hsx]; intro e; apply hx.2; rw [← hp.2, ← hs.2, e, sn_nm _ hp.1]), hsx]
theorem wsp_rings {xs : List Mv} (h : MV xs) : wspB xs = decide (ringsF (nxT (tabOf xs)) 9 = []) := by
  have hf := SV_tab h
  have hn := nice hf
  have hw : wspB xs = decide ((takM xs).length = (busyF xs 9).length) := by
    unfold wspB; rw [show mvalid xs = true by simpa [mvalid] using h]; rfl
  rw [hw, decide_eq_decide]
  constructor
  · intro heq
    refine Classical.byContradiction fun hne => ?_
    obtain ⟨l, hl⟩ := List.exists_mem_of_ne_nil _ hne
    obtain ⟨s, hs9, rfl, hon, _⟩ := ringsF_mem2 9 l hl
    have hs19 : s < 19 := by omega
    have hO := (onRb_iff hn hs19).1 hon
    have hall := ring_all hn hs19 hO
    -- the moves of the ring
    have hmv : ∀ p, p ∈ way (nxT (tabOf xs)) s → p < 9 ∧ (nm p, srcM xs (nm p)) ∈ busyF xs 9 ∧ nxT (tabOf xs) p = some (sx (tabOf xs) p) := fun p hp => by
      have hp9 := ring_low hn (hall p hp)
      have hne2 : sx (tabOf xs) p ≠ p := fun e => by
        obtain ⟨k, hk, ek⟩ := hall p hp
        obtain ⟨k, rfl⟩ : ∃ m, k = m + 1 := ⟨k - 1, by omega⟩
        rw [show k + 1 = 1 + k by omega, orb_add] at ek
        simp only [orb, Option.bind_some, nxT_stay hp9 e] at ek
        cases ek
      refine ⟨hp9, ?_, nxT_some hp9 hne2⟩
      have hsrc : srcM xs (nm p) ≠ nm p := fun e => by
        rw [← srcM_nm h hp9] at e
        exact hne2 ((src_self hf hp9).1 e)
      exact (busyF_mem h _).2 ⟨mem_of_srcM hsrc, fun e => hsrc e.symm⟩
    have := takF_ring (fun m => ∃ p, p ∈ way (nxT (tabOf xs)) s ∧ m = (nm p, srcM xs (nm p))) 9 (busyF xs 9)
      ⟨_, s, List.mem_of_getElem? ((way_rho hn hs19).at_ 0 (way_rho hn hs19).pos), rfl⟩ (by
        rintro m ⟨p, hp, rfl⟩
        refine ⟨(hmv p hp).2.1, ?_⟩
        -- its reader on the ring
        obtain ⟨k, hk, ek⟩ := hall p hp
        obtain ⟨k, rfl⟩ : ∃ m, k = m + 1 := ⟨k - 1, by omega⟩
        have ek' := ek
        simp only [orb, Option.bind_eq_some_iff] at ek'
        obtain ⟨q, hq1, hq2⟩ := ek'
        have hqw := ring_orb hn hs19 hon hp k q hq1
        obtain ⟨hq9, _, hqn⟩ := hmv q hqw
        rw [hqn] at hq2
        have hsxq : sx (tabOf xs) q = p := Option.some.inj hq2
        refine ⟨(nm q, srcM xs (nm q)), ⟨q, hqw, rfl⟩, ?_⟩
        show srcM xs (nm q) = nm p
        rw [← srcM_nm h hq9, ← (sx_lt hf hq9).2, hsxq, sn_nm p (hmv p hp).1])
    unfold takM at heq
    omega
  · intro hr
    refine Classical.byContradiction fun hne => ?_
    have hlt : (takF 9 (busyF xs 9)).length < (busyF xs 9).length := by
      have := takF_len 9 (busyF xs 9)
      unfold takM at hne
      omega
    obtain ⟨vs, hv0, hv1, hv2⟩ := takF_left 9 (busyF xs 9) (busyF_Wt h) (busyF_len xs 9) hlt
    obtain ⟨m0, hm0⟩ := List.exists_mem_of_ne_nil _ hv0
    -- the way from there never ends
    have hway : ∀ k, ∃ m ∈ vs, orb (nxT (tabOf xs)) (pidx m0.1) k = some (pidx m.1) := by
      intro k
      induction k with
      | zero => exact ⟨m0, hm0, rfl⟩
      | succ k ih =>
        obtain ⟨m, hm, e⟩ := ih
        obtain ⟨x, hx, ex⟩ := hv2 m hm
        have hb := busy_nx h (hv1 m hm)
        have hxP := (busy_nx h (hv1 x hx)).2.1
        refine ⟨x, hx, ?_⟩
        simp only [orb, e, Option.bind_some, hb.1]
        rw [ex, Option.some.injEq]
        exact sidx_pidx (by rw [← ex]; exact hxP)
    have hlt9 : ∀ k, k ≤ 9 → ((orb (nxT (tabOf xs)) (pidx m0.1) k).getD 0) < 9 := fun k _ => by
      obtain ⟨m, hm, e⟩ := hway k
      rw [e]
      exact (pidx_spec (busy_nx h (hv1 m hm)).2.1).1
    obtain ⟨i, j, hij, _, e⟩ := pigeon 9 (fun k => (orb (nxT (tabOf xs)) (pidx m0.1) k).getD 0) hlt9
    obtain ⟨mi, hmi, ei⟩ := hway i
    obtain ⟨mj, hmj, ej⟩ := hway j
    simp only [ei, ej, Option.getD_some] at e
    have hq9 := (pidx_spec (busy_nx h (hv1 mi hmi)).2.1).1
    have hon : OnR (nxT (tabOf xs)) (pidx mi.1) := by
      refine ⟨j - i, by omega, ?_⟩
      have := orb_add (nx := nxT (tabOf xs)) (pidx m0.1) i (j - i)
      rw [show i + (j - i) = j by omega, ej, ei] at this
      rw [e]
      simpa [e] using this.symm
    have := ringsF_in hn hq9 ((onRb_iff hn (by omega)).2 hon) 9 hq9
    rw [hr] at this
    cases this
end Go.PM
namespace Go.PM
open Go.RowKit
theorem cell_inj : ∀ p < 11, ∀ q < 11, cellsL.getD q 0 = cellsL.getD p 0 → q = p := by decide +kernel
theorem pmH_pick (h : Nat → Bool) (p : Nat) (hp : p < 11) : pmH (pickB cellsL h 11) ⟨#[cellsL.getD p 0]⟩ = h p := by
  rw [pmH_one, Bool.eq_iff_iff, decide_eq_true_eq]
  unfold pickB pickL
  simp only [List.mem_map, List.mem_filter, List.mem_range]
  constructor
  · rintro ⟨q, ⟨hq, hh⟩, e⟩
    rw [cell_inj p hp q hq e] at hh; exact hh
  · intro hh; exact ⟨p, ⟨hp, hh⟩, rfl⟩
theorem nm_tq {p : Nat} (hp : p < 9) : nm p = tq p := by
  match p, hp with
  | 0, _ | 1, _ | 2, _ | 3, _ | 4, _ | 5, _ | 6, _ | 7, _ | 8, _ => decide +kernel
theorem tq_cell {p : Nat} (hp : p < 11) : isC (tq p) = true ∧ cidx (tq p) = p := by
  match p, hp with
  | 0, _ | 1, _ | 2, _ | 3, _ | 4, _ | 5, _ | 6, _ | 7, _ | 8, _ | 9, _ | 10, _ => decide +kernel
theorem tq_of {a : ByteArray} (h : isC a = true) : tq (cidx a) = a := by
  obtain ⟨c, rfl⟩ := one_of_size (isC_size h)
  have h2 : c ∈ cellsL := by simpa [isC] using h
  show (⟨#[cellsL.getD (cidx ⟨#[c]⟩) 0]⟩ : ByteArray) = _
  rw [(cidx_one h2).2.2]
theorem st_kind {x : St} (h : stOk x = true) : (x.1 = 0 ∧ isC x.2.1 = true ∧ okC x.2.2 = true) ∨ (x.1 = 1 ∧ isC x.2.1 = true ∧ isC x.2.2 = true) := by
  unfold stOk at h
  rw [Bool.or_eq_true] at h
  rcases h with h | h
  · simp only [Bool.and_eq_true, decide_eq_true_eq] at h
    exact .inl ⟨h.1, h.2.1, h.2.2⟩
  · simp only [Bool.and_eq_true, decide_eq_true_eq] at h
    exact .inr ⟨h.1, h.2.1, h.2.2⟩
/-- steps give in every state what they give to names -/
theorem run_names (xs : List St) (h : svalid xs = true) (f : Nat → UInt8) : ∀ k, k ≤ xs.length → ∀ p, p < 11 → runS xs k f p = rdS f ⟨#[runS xs k nmT p]⟩ := by
  intro k
  induction k with
  | zero =>
    intro _ p hp
    rw [runS_zero, runS_zero]
    have := tq_cell hp
    show f p = rdS f (tq p)
    rw [rdS_cell this.1, this.2]
  | succ k ih =>
    intro hk p hp
    have ih := ih (by omega)
    have hkl : k < xs.length := by omega
    rw [runS_succ xs k hkl, runS_succ xs k hkl]
    have hv := svalid_at h k hkl
    generalize xs[k] = x at hv
    generalize runS xs k f = f1 at ih
    generalize runS xs k nmT = g1 at ih
    unfold doS
    rcases st_kind hv with ⟨h1, h2, h3⟩ | ⟨h1, h2, h3⟩
    · rw [if_neg (by omega), if_neg (by omega)]
      unfold updS
      by_cases hpq : p = cidx x.2.1
      · rw [if_pos hpq, if_pos hpq]
        by_cases hc : isC x.2.2 = true
        · rw [rdS_cell hc, rdS_cell hc, ih _ (cidx_lt hc)]
        · have hc' : isC x.2.2 = false := by simpa using hc
          have h4 := fc_one (okC_size h3)
          rw [rdS_digit hc', rdS_digit hc', ← h4, rdS_digit hc']
      · rw [if_neg hpq, if_neg hpq]; exact ih p hp
    · rw [if_pos h1, if_pos h1]
      unfold swS
      by_cases hp1 : p = cidx x.2.1
      · rw [if_pos hp1, if_pos hp1]; exact ih _ (cidx_lt h3)
      · rw [if_neg hp1, if_neg hp1]
        by_cases hp2 : p = cidx x.2.2
        · rw [if_pos hp2, if_pos hp2]; exact ih _ (cidx_lt h2)
        · rw [if_neg hp2, if_neg hp2]; exact ih p hp
/-- what is not touched stays -/
theorem run_stays (xs : List St) (h : svalid xs = true) (f : Nat → UInt8) {p : Nat} (_hp : p < 11) : ∀ k, k ≤ xs.length → tcI xs p k = false → runS xs k f p = f p := by
  intro k
  induction k with
  | zero => intro _ _; rw [runS_zero]
  | succ k ih =>
    intro hk ht
    have hkl : k < xs.length := by omega
    rw [tcI_succ xs p k hkl, Bool.or_eq_false_iff] at ht
    have ih := ih (by omega) ht.1
    rw [runS_succ xs k hkl]
    have hv := svalid_at h k hkl
    have ht2 := ht.2
    generalize xs[k] = x at hv ht2
    generalize runS xs k f = f1 at ih
    unfold tcX at ht2
    rw [Bool.or_eq_false_iff, decide_eq_false_iff_not] at ht2
    have hne : ∀ a, isC a = true → a ≠ tq p → p ≠ cidx a := fun a ha hn e => hn (by rw [e, tq_of ha])
    unfold doS
    rcases st_kind hv with ⟨h1, h2, h3⟩ | ⟨h1, h2, h3⟩
    · rw [if_neg (by omega)]
      unfold updS
      rw [if_neg (hne _ h2 ht2.1)]; exact ih
    · rw [if_pos h1]
      have h4 : x.2.2 ≠ tq p := by simpa [h1] using ht2.2
      unfold swS
      rw [if_neg (hne _ h2 ht2.1), if_neg (hne _ h3 h4)]; exact ih
theorem tcB_pmH {xs : List St} (h : svalid xs = true) {p : Nat} (hp : p < 9) : pmH (tcB xs) (nm p) = tcH xs p := by
  have e : tcB xs = pickB cellsL (tcH xs) 11 := by unfold tcB; rw [h]; rfl
  rw [e, nm_tq hp]
  exact pmH_pick (tcH xs) p (by omega)
/-- the moves that steps do are of touched places -/
theorem eff_touched (xs : List St) : ∀ m ∈ effM xs, m.1 ≠ m.2 ∧ pmH (tcB xs) m.1 = true := by
  intro m hm
  rcases Bool.eq_false_or_eq_true (effOk xs) with ho | ho
  · rw [effM_yes ho] at hm
    have hv : svalid xs = true := by unfold effOk at ho; rw [Bool.and_eq_true] at ho; exact ho.1
    obtain ⟨h1, h2⟩ := List.mem_filter.1 hm
    have h2 : m.1 ≠ m.2 := by simpa using h2
    refine ⟨h2, ?_⟩
    obtain ⟨p, hp, rfl⟩ := List.mem_map.1 h1
    have hp9 : p < 9 := by simpa using hp
    show pmH (tcB xs) (nm p) = true
    rw [tcB_pmH hv hp9, ← tcI_full hv p]
    rcases Bool.eq_false_or_eq_true (tcI xs p xs.length) with ht | ht
    · exact ht
    · exfalso
      have := run_stays xs hv nmT (show p < 11 by omega) xs.length (Nat.le_refl _) ht
      apply h2
      show nm p = ⟨#[effG xs p]⟩
      rw [nm_tq hp9]
      show tq p = ⟨#[runS xs xs.length nmT p]⟩
      rw [this]; rfl
  · rw [effM_no ho] at hm; cases hm
/-- done at once they give to places what the steps give -/
theorem eff_once {xs : List St} (ho : effOk xs = true) {s : ByteArray} (hs : stateV s = true) :
    (mvalid (effM xs) && stateV s) = true ∧ (aoB (effM xs) s).extract 0 9 = (ioB xs s).extract 0 9 ∧ irB xs (effM xs) = true ∧ (aoB (effM xs) s).size = 11 ∧ (ioB xs s).size = 11 := by
  have hv : svalid xs = true := by unfold effOk at ho; rw [Bool.and_eq_true] at ho; exact ho.1
  have hmv : MV (effL (effG xs) 9) := by
    unfold effOk at ho; rw [Bool.and_eq_true] at ho
    simpa [mvalid] using ho.2
  have hM : MV (effM xs) := by rw [effM_yes ho]; exact busyM_MV hmv
  have m1 : mvalid (effM xs) = true := by simpa [mvalid] using hM
  have e1 : aoB (effM xs) s = stB (aoS (tabOf (effM xs)) (ofB s)) := by unfold aoB; rw [m1, hs]; rfl
  have e2 : ioB xs s = stB (runS xs xs.length (ofB s)) := by unfold ioB; rw [hv, hs]; rfl
  refine ⟨by rw [m1, hs]; rfl, ?_, ?_, by rw [e1]; rfl, by rw [e2]; rfl⟩
  · have key : ∀ p, p < 9 → aoS (tabOf (effM xs)) (ofB s) p = runS xs xs.length (ofB s) p := fun p hp => by
      have hk : srcM (effM xs) (nm p) = ⟨#[effG xs p]⟩ := by rw [effM_yes ho, srcM_busy _ _ hmv.2, srcM_effL _ p hp]
      unfold aoS
      rw [if_pos hp, srcM_nm hM hp, hk, run_names xs hv (ofB s) xs.length (Nat.le_refl _) p (by omega)]
      rfl
    rw [e1, e2]
    have e3 : ∀ f : Nat → UInt8, (stB f).extract 0 9 = ⟨#[f 0, f 1, f 2, f 3, f 4, f 5, f 6, f 7, f 8]⟩ := fun f => by
      apply ByteArray.ext
      simp [stB, ByteArray.data_extract]
    rw [e3, e3, key 0 (by omega), key 1 (by omega), key 2 (by omega), key 3 (by omega), key 4 (by omega), key 5 (by omega), key 6 (by omega), key 7 (by omega), key 8 (by omega)]
  · unfold irB sameM
    rw [ho, m1, Bool.true_and, Bool.true_and, Bool.true_and, List.all_eq_true]
    intro p _
    unfold sameAt
    exact decide_eq_true rfl
theorem effM_len (xs : List St) : (effM xs).length ≤ 9 := by
  rcases Bool.eq_false_or_eq_true (effOk xs) with h | h
  · rw [effM_yes h]; exact busyE_le _ 9
  · rw [effM_no h]; exact Nat.zero_le _
theorem ioB_out (xs : List St) (s : ByteArray) (h : (svalid xs && stateV s) = false) : ioB xs s = ⟨#[]⟩ := by unfold ioB; rw [h]; rfl
theorem tcB_size (xs : List St) : (tcB xs).size ≤ 11 := by
  unfold tcB okS
  split
  · exact pickB_size _ _ _
  · exact Nat.zero_le _
end Go.PM
namespace Go.PW
open Go.PM Go.RowKit
/-- the first place of a ring -/
def firstR (nx : Nat → Option Nat) (s : Nat) : Bool := onRb nx s && decide (s ∉ (ringsF nx s).flatten)
theorem ringsF_map (nx : Nat → Option Nat) : ∀ k, ringsF nx k = ((List.range k).filter (firstR nx)).map (way nx) := by
  intro k
  induction k with
  | zero => rfl
  | succ k ih =>
    rw [List.range_succ, List.filter_append, List.map_append, ← ih]
    by_cases hc : onRb nx k = true ∧ k ∉ (ringsF nx k).flatten
    · have hf : firstR nx k = true := by unfold firstR; rw [hc.1, decide_eq_true hc.2]; rfl
      rw [ringsF_yes hc.1 hc.2]; simp [hf]
    · have hf : firstR nx k = false := by
        unfold firstR
        rcases Bool.eq_false_or_eq_true (onRb nx k) with h1 | h1
        · rw [h1, decide_eq_false (fun h2 => hc ⟨h1, h2⟩)]; rfl
        · rw [h1]; rfl
      rw [ringsF_no hc]; simp [hf]
theorem closedB_count {xs : List Mv} (h : MV xs) : (closedB xs).length = ((List.range 9).filter fun s => firstR (nxT (tabOf xs)) s && shut1 (tabOf xs) (way (nxT (tabOf xs)) s)).length := by
  unfold closedB closedT
  rw [if_pos (by simpa [mvalid] using h), List.length_map, ringsF_map, List.filter_map, List.length_map, List.filter_filter]
  congr 1
  refine List.filter_congr fun s _ => ?_
  exact Bool.and_comm _ _
theorem rcount_rdN {xs : List Mv} (h : MV xs) {q : Nat} (hq : q < 9) : rdN (busyF xs 9) (nm q) = rcount (tabOf xs) q := by
  have e1 : rcount (tabOf xs) q = ((List.range 9).filter (rdH (tabOf xs) (sn q))).length := by
    unfold rcount namesW
    simp [ByteArray.size, namesL]
  have e2 : rdN (busyF xs 9) (nm q) = ((List.range 9).filter fun p => busyH xs p && (srcM xs (nm p) == nm q)).length := by
    unfold rdN busyF
    rw [List.map_map, List.count_eq_countP, List.countP_map, List.countP_eq_length_filter, List.filter_filter]
    congr 1
    refine List.filter_congr fun p _ => ?_
    exact Bool.and_comm _ _
  rw [e1, e2]
  congr 1
  refine List.filter_congr fun p hp => ?_
  have hp9 := List.mem_range.1 hp
  have e3 : srcT (tabOf xs) p = srcM xs (nm p) := srcT_M h hp9
  unfold busyH rdH
  rw [e3, sn_nm q hq, Bool.eq_iff_iff, Bool.and_eq_true, Bool.and_eq_true, decide_eq_true_eq, beq_iff_eq, decide_eq_true_eq, decide_eq_true_eq]
  constructor
  · rintro ⟨h1, h2⟩; exact ⟨fun e => h1 (by rw [h2, e]), h2⟩
  · rintro ⟨h1, h2⟩; exact ⟨fun e => h1 (by rw [← e, h2]), h2⟩
theorem busy_next {xs : List Mv} (h : MV xs) {p : Nat} (hp : p < 9) {b : ByteArray} (hb : (nm p, b) ∈ busyF xs 9) : ∃ j, nxT (tabOf xs) p = some j ∧ sn j = b ∧ sidx b = j := by
  obtain ⟨h1, h2⟩ := (busyF_mem h _).1 hb
  have hs : srcM xs (nm p) = b := srcM_of_mem h h1
  have e3 : srcT (tabOf xs) p = srcM xs (nm p) := srcT_M h hp
  have hf := SV_tab h
  have hx := sx_lt hf hp
  rw [e3, hs] at hx
  have hne : sx (tabOf xs) p ≠ p := fun e => by
    rw [e, sn_nm p hp] at hx
    exact h2 hx.2
  exact ⟨_, nxT_some hp hne, hx.2, by rw [← hx.2, sidx_sn hx.1]⟩
theorem next_busy {xs : List Mv} (h : MV xs) {p j : Nat} (hn : nxT (tabOf xs) p = some j) : p < 9 ∧ (nm p, sn j) ∈ busyF xs 9 := by
  have hf := SV_tab h
  have hp : p < 9 := (nice hf).low p j hn
  refine ⟨hp, ?_⟩
  unfold nxT at hn
  rw [if_pos hp] at hn
  by_cases e : sx (tabOf xs) p = p
  · rw [if_pos e] at hn; cases hn
  · rw [if_neg e, Option.some.injEq] at hn
    have hx := sx_lt hf hp
    have e3 : srcT (tabOf xs) p = srcM xs (nm p) := srcT_M h hp
    rw [e3, hn] at hx
    have hj : j ≠ p := fun e2 => e (by rw [hn, e2])
    have hne : srcM xs (nm p) ≠ nm p := by
      rw [← hx.2, ← sn_nm p hp]
      exact fun e2 => hj (sn_inj hx.1 (by omega) e2)
    rw [hx.2]
    exact (busyF_mem h _).2 ⟨mem_of_srcM hne, fun e2 => hne e2.symm⟩
theorem clo_bridge {xs : List Mv} (h : MV xs) {p : Nat} (hp : p < 9) :
    Clo (busyF xs 9) p ↔ (firstR (nxT (tabOf xs)) p && shut1 (tabOf xs) (way (nxT (tabOf xs)) p)) = true := by
  have hf := SV_tab h
  have hn := nice hf
  have hr := way_rho hn (show p < 19 by omega)
  rw [Bool.and_eq_true]
  unfold firstR shut1
  rw [Bool.and_eq_true, decide_eq_true_eq, List.all_eq_true]
  constructor
  · rintro ⟨n, o, h0, o0, on, hk⟩
    have hoP : ∀ k, k < n → isP (o k) = true := fun k hkn => by
      have h1 := ((busyF_mem h _).1 (hk k hkn).1).1
      have := h.1 _ h1
      unfold mok at this; rw [Bool.and_eq_true] at this; exact this.1
    have hstep : ∀ k, k < n → ∃ j, j < n ∧ nxT (tabOf xs) (pidx (o k)) = some (pidx (o j)) ∧ o j = o (k + 1) := fun k hkn => by
      obtain ⟨j, hj, e⟩ := ring_wrap h0 (on.trans o0.symm) hkn
      have hs := pidx_spec (hoP k hkn)
      have hb := (hk k hkn).1
      rw [← hs.2] at hb
      obtain ⟨t, ht1, ht2, ht3⟩ := busy_next h hs.1 hb
      refine ⟨j, hj, ?_, e.symm⟩
      rw [ht1, ← ht3, e, sidx_pidx (hoP j hj)]
    have horb : ∀ k, ∃ j, j < n ∧ orb (nxT (tabOf xs)) p k = some (pidx (o j)) := by
      intro k
      induction k with
      | zero => exact ⟨0, h0, by rw [o0, pidx_nm hp]; rfl⟩
      | succ k ih =>
        obtain ⟨j, hj, e⟩ := ih
        obtain ⟨j', hj', e', _⟩ := hstep j hj
        exact ⟨j', hj', by simp only [orb, e, Option.bind_some]; exact e'⟩
    have horb2 : ∀ k, k < n → orb (nxT (tabOf xs)) p k = some (pidx (o k)) := by
      intro k
      induction k with
      | zero => intro _; rw [o0, pidx_nm hp]; rfl
      | succ k ih =>
        intro hk1
        obtain ⟨j', hj', e', e2⟩ := hstep k (by omega)
        simp only [orb, ih (by omega), Option.bind_some]
        rw [e', e2]
    have hon : OnR (nxT (tabOf xs)) p := by
      refine ⟨n, h0, ?_⟩
      obtain ⟨m, rfl⟩ : ∃ m, n = m + 1 := ⟨n - 1, by omega⟩
      obtain ⟨j', hj', e', e2⟩ := hstep m (by omega)
      simp only [orb, horb2 m (by omega), Option.bind_some]
      rw [e', e2, on, pidx_nm hp]
    have hrb := (onRb_iff hn (show p < 19 by omega)).2 hon
    have hway : ∀ i ∈ way (nxT (tabOf xs)) p, ∃ j, j < n ∧ i = pidx (o j) := fun i hi => by
      obtain ⟨k, hk1⟩ := List.getElem?_of_mem hi
      have hkl := (List.getElem?_eq_some_iff.1 hk1).1
      rw [hr.at_ k hkl] at hk1
      obtain ⟨j, hj, e⟩ := horb k
      rw [hk1] at e
      exact ⟨j, hj, Option.some.inj e⟩
    refine ⟨⟨hrb, fun hm => ?_⟩, fun i hi => ?_⟩
    · obtain ⟨l, hl, hpl⟩ := List.mem_flatten.1 hm
      obtain ⟨s, hs, rfl, hr', _⟩ := ringsF_mem2 p l hl
      obtain ⟨k, hk1⟩ := ring_back hn (show s < 19 by omega) hr' hpl
      obtain ⟨j, hj, e⟩ := horb k
      rw [hk1] at e
      have := (hk j hj).2.2
      have := Option.some.inj e
      omega
    · obtain ⟨j, hj, rfl⟩ := hway i hi
      have hs := pidx_spec (hoP j hj)
      rw [decide_eq_true_eq, ← rcount_rdN h hs.1, hs.2]
      exact (hk j hj).2.1
  · rintro ⟨⟨hrb, hfi⟩, hsh⟩
    have hon := (onRb_iff hn (show p < 19 by omega)).1 hrb
    have hend := hr.onR.1 hon
    have hmin := ring_min hn hp hrb hfi
    refine ⟨(way (nxT (tabOf xs)) p).length, fun k => sn ((orb (nxT (tabOf xs)) p k).getD 0), hr.pos, sn_nm p hp, ?_, fun k hk => ?_⟩
    · show sn ((orb (nxT (tabOf xs)) p (way (nxT (tabOf xs)) p).length).getD 0) = nm p
      rw [hend]; exact sn_nm p hp
    · have hk1 := hr.some_ hk
      have hmem : (way (nxT (tabOf xs)) p)[k] ∈ way (nxT (tabOf xs)) p := List.getElem_mem hk
      generalize (way (nxT (tabOf xs)) p)[k] = i at hk1 hmem
      have hi := ring_low hn (ring_all hn (show p < 19 by omega) hon i hmem)
      have hnx : ∃ j, nxT (tabOf xs) i = some j := by
        have := ring_all hn (show p < 19 by omega) hon i hmem
        obtain ⟨k', hk', e⟩ := this
        obtain ⟨k', rfl⟩ : ∃ m, k' = m + 1 := ⟨k' - 1, by omega⟩
        rw [show k' + 1 = 1 + k' by omega, orb_add] at e
        cases h1 : nxT (tabOf xs) i with
        | none => rw [show orb (nxT (tabOf xs)) i 1 = none by simp only [orb, Option.bind_some]; exact h1] at e; cases e
        | some j => exact ⟨j, rfl⟩
      obtain ⟨j, hj⟩ := hnx
      have hk2 : orb (nxT (tabOf xs)) p (k + 1) = some j := by simp only [orb, hk1, Option.bind_some]; exact hj
      refine ⟨?_, ?_, ?_⟩
      · show (sn ((orb (nxT (tabOf xs)) p k).getD 0), sn ((orb (nxT (tabOf xs)) p (k + 1)).getD 0)) ∈ _
        rw [hk1, hk2]
        show (sn i, sn j) ∈ _
        rw [sn_nm i hi]
        exact (next_busy h hj).2
      · show rdN _ (sn ((orb (nxT (tabOf xs)) p k).getD 0)) = 1
        rw [hk1]
        show rdN _ (sn i) = 1
        rw [sn_nm i hi, rcount_rdN h hi]
        have := hsh i hmem
        simpa using this
      · show p ≤ pidx (sn ((orb (nxT (tabOf xs)) p k).getD 0))
        rw [hk1]
        show p ≤ pidx (sn i)
        rw [sn_nm i hi, pidx_nm hi]
        exact hmin i hmem
theorem clo_closed {xs : List Mv} (h : MV xs) : cloN (busyF xs 9) = (closedB xs).length := by
  rw [closedB_count h]
  unfold cloN
  congr 1
  refine List.filter_congr fun p hp => ?_
  rw [Bool.eq_iff_iff, cloB_iff]
  exact clo_bridge h (List.mem_range.1 hp)
theorem wrB_stp (m : Mv) : wrB (stpM m) = m.1 := wrB_move 0 m.1 m.2 (by decide)
theorem wrL_stL (ms : List Mv) : wrL (stL ms) = ms.flatMap fun m => m.1.data.toList := by
  unfold wrL stL
  rw [List.flatMap_map]
  congr 1
theorem sp_byte {a : ByteArray} (h : isP a = true ∨ a = spT) : (116 ∈ a.data.toList ↔ a = spT) ∧ 117 ∉ a.data.toList := by
  rcases h with h | rfl
  · obtain ⟨p, hp, rfl⟩ := nm_of_isP h
    match p, hp with
    | 0, _ | 1, _ | 2, _ | 3, _ | 4, _ | 5, _ | 6, _ | 7, _ | 8, _ => decide +kernel
  · decide +kernel
theorem tcH_stL {ms : List Mv} (hm : ∀ m ∈ ms, isP m.1 = true ∨ m.1 = spT) : tcH (stL ms) 9 = ms.any (fun m => decide (m.1 = spT)) ∧ tcH (stL ms) 10 = false := by
  unfold tcH inTx
  rw [wrL_stL]
  constructor
  · rw [Bool.eq_iff_iff, decide_eq_true_eq, List.any_eq_true, List.mem_flatMap]
    constructor
    · rintro ⟨m, h1, h2⟩; exact ⟨m, h1, decide_eq_true ((sp_byte (hm m h1)).1.1 h2)⟩
    · rintro ⟨m, h1, h2⟩; exact ⟨m, h1, (sp_byte (hm m h1)).1.2 (of_decide_eq_true h2)⟩
  · rw [decide_eq_false_iff_not, List.mem_flatMap]
    rintro ⟨m, h1, h2⟩
    exact (sp_byte (hm m h1)).2 h2
/-- what FnOrderMoves asks of the answers -/
theorem ord_facts {xs : List Mv} (h : MV xs) : ((ordM xs).length : Int) = cioI xs ∧ cioI xs = ((busyF xs 9).length : Int) + ((closedB xs).length : Int) ∧
    pmH (tcB (stL (ordM xs))) ⟨#[116]⟩ = needB xs ∧ pmH (tcB (stL (ordM xs))) ⟨#[117]⟩ = false := by
  have hm : mvalid xs = true := by simpa [mvalid] using h
  have hw := ordF_count 19 (busyF xs 9) (busyF_Wt h) (busyF_Srt xs) busy_mu
  have hv := ordM_valid h
  have ho := ordF_ok 19 (busyF xs 9) (busyF_Wt h)
  have ht := tcH_stL (ms := ordF 19 (busyF xs 9)) fun m hm => (ho m hm).1
  have e : tcB (stL (ordM xs)) = pickB cellsL (tcH (stL (ordM xs))) 11 := by unfold tcB; rw [hv]; rfl
  refine ⟨?_, ?_, ?_, ?_⟩
  · rw [ordM_yes h, hw.1, clo_closed h]
    unfold cioI; rw [if_pos hm]; omega
  · unfold cioI; rw [if_pos hm]
  · rw [e, ordM_yes h]
    have := pmH_pick (tcH (stL (ordF 19 (busyF xs 9)))) 9 (by omega)
    rw [ht.1, hw.2, clo_closed h] at this
    exact this
  · rw [e, ordM_yes h]
    have := pmH_pick (tcH (stL (ordF 19 (busyF xs 9)))) 10 (by omega)
    rw [ht.2] at this
    exact this
end Go.PW
namespace Go.PM
open Go.RowKit
def atP (p : Nat) (m : Mv) : Bool := decide (m.1 = nm p)
def sortO (xs : List Mv) (k : Nat) : List Mv := (List.range k).flatMap fun p => xs.filter (atP p)
def sortI (xs : List Mv) (k j : Nat) : List Mv := sortO xs k ++ (xs.take j).filter (atP k)
theorem filt_snoc (l : List Mv) (m : Mv) (f : Mv → Bool) : (l ++ [m]).filter f = if f m then l.filter f ++ [m] else l.filter f := by
  rw [List.filter_append]
  by_cases h : f m <;> simp [h]
theorem sortI_step (xs : List Mv) (k j : Nat) (hj : j < xs.length) : sortI xs k (j + 1) = if xs[j].1 = nm k then sortI xs k j ++ [xs[j]] else sortI xs k j := by
  unfold sortI
  rw [take_snoc xs j hj, filt_snoc]
  by_cases h : xs[j].1 = nm k
  · rw [if_pos h, if_pos (by rw [atP, decide_eq_true h]), List.append_assoc]
  · rw [if_neg h, if_neg (by rw [atP, decide_eq_false h]; decide)]
theorem sortI_zero (xs : List Mv) (k : Nat) : sortI xs k 0 = sortO xs k := by simp [sortI]
theorem sortI_full (xs : List Mv) (k : Nat) : sortI xs k xs.length = sortO xs (k + 1) := by
  rw [sortI, List.take_length, sortO, sortO, List.range_succ, List.flatMap_append]
  simp
theorem sortO_le (xs : List Mv) (k : Nat) : (sortO xs k).length ≤ k * xs.length := by
  induction k with
  | zero => simp [sortO]
  | succ k ih =>
    rw [← sortI_full, sortI, List.length_append, List.take_length, Nat.succ_mul]
    have := List.length_filter_le (atP k) xs
    omega
theorem sortI_le (xs : List Mv) (k j : Nat) : (sortI xs k j).length ≤ k * xs.length + xs.length := by
  rw [sortI, List.length_append]
  have h1 := sortO_le xs k
  have h2 := List.length_filter_le (atP k) (xs.take j)
  rw [List.length_take] at h2
  omega
def sortM (xs : List Mv) : List Mv := if mvalid xs then sortO xs 9 else []
end Go.PM
namespace Go.Proofs.YtcpibkffeenehaaDoor
open Go.RowKit Go.PM

end Go.Proofs.YtcpibkffeenehaaDoor
namespace Go.PM
open Go.RowKit
theorem filter_find (a : ByteArray) : ∀ xs : List Mv, (xs.map (·.1)).Nodup → xs.filter (fun m => decide (m.1 = a)) = (xs.find? (fun m => decide (m.1 = a))).toList
  | [], _ => rfl
  | m :: xs, h => by
    rw [List.map_cons, List.nodup_cons] at h
    by_cases hm : m.1 = a
    · have h2 : xs.filter (fun m => decide (m.1 = a)) = [] := by
        rw [List.filter_eq_nil_iff]
        intro y hy e
        have : y.1 = a := by simpa using e
        exact h.1 (List.mem_map.2 ⟨y, hy, by rw [this, hm]⟩)
      simp [hm, h2]
    · have ih := filter_find a xs h.2
      simp [hm, ih]
theorem filter_tab {xs : List Mv} (h : MV xs) (p : Nat) : xs.filter (atP p) = if hasT (tabOf xs) p then [(nm p, tabOf xs p)] else [] := by
  have h1 : xs.filter (atP p) = (xs.find? (fun m => decide (m.1 = nm p))).toList := filter_find (nm p) xs h.2
  rw [h1]
  unfold hasT
  cases hf : xs.find? (fun m => decide (m.1 = nm p)) with
  | none =>
    have : tabOf xs p = emp := by unfold tabOf; rw [hf]; rfl
    simp [this]
  | some m =>
    have e1 : m.1 = nm p := by simpa using List.find?_some hf
    have e2 : tabOf xs p = m.2 := by unfold tabOf; rw [hf]; rfl
    have hm := h.1 m (List.mem_of_find?_eq_some hf)
    unfold mok at hm; rw [Bool.and_eq_true] at hm
    have e3 : m.2 ≠ emp := fun e => by have := isS_size hm.2; rw [e] at this; cases this
    rw [e2, ← e1]
    simp [e3]
theorem mvT_flat (t : Nat → ByteArray) : ∀ l : List Nat, mvT t l = l.flatMap fun p => if hasT t p then [(nm p, t p)] else []
  | [] => rfl
  | p :: l => by
    have ih := mvT_flat t l
    rw [List.flatMap_cons, ← ih]
    unfold mvT
    cases h : hasT t p <;> simp [h]
theorem sortM_mvT {xs : List Mv} (h : MV xs) : sortM xs = mvT (tabOf xs) (List.range 9) := by
  have hm : mvalid xs = true := by simpa [mvalid] using h
  rw [sortM, if_pos hm, sortO, mvT_flat]
  congr 1
  funext p
  exact filter_tab h p
end Go.PM
namespace Go.Proofs.YtcpibkffeenehaaDoor
open Go.RowKit Go.PM

end Go.Proofs.YtcpibkffeenehaaDoor
namespace Go.PM
open Go.RowKit
theorem sameM_comm (xs ys : List Mv) : sameM xs ys = sameM ys xs := by
  unfold sameM
  have : sameAt xs ys = sameAt ys xs := by funext p; unfold sameAt; simp [eq_comm]
  rw [this, Bool.and_comm (mvalid xs)]
theorem srcM_like {xs ys : List Mv} (h : MV xs) (h2 : MV ys) (hm : ∀ m : Mv, m.1 ≠ m.2 → (m ∈ ys ↔ m ∈ xs)) (a : ByteArray) : srcM ys a = srcM xs a := by
  by_cases h0 : srcM ys a = a
  · by_cases h1 : srcM xs a = a
    · rw [h0, h1]
    · have h3 := mem_of_srcM h1
      exact srcM_of_mem h2 ((hm (a, srcM xs a) (fun e => h1 e.symm)).2 h3)
  · have h3 := mem_of_srcM h0
    exact (srcM_of_mem h ((hm (a, srcM ys a) (fun e => h0 e.symm)).1 h3)).symm
theorem sameM_like {xs ys : List Mv} (h : MV xs) (h2 : MV ys) (hm : ∀ m : Mv, m.1 ≠ m.2 → (m ∈ ys ↔ m ∈ xs)) : sameM ys xs = true := by
  rw [sameM_all (fun p _ => by unfold sameAt; rw [srcM_like h h2 hm, decide_eq_true rfl])]
  simp [mvalid, h, h2]
theorem drop_no {xs : List Mv} (h : mvalid xs = false) : dropM xs = [] := by simp [dropM, h]
theorem sort_no {xs : List Mv} (h : mvalid xs = false) : sortM xs = [] := by simp [sortM, h]
theorem drop_mem {xs : List Mv} (h : MV xs) (m : Mv) : m ∈ dropM xs ↔ m ∈ xs ∧ m.1 ≠ m.2 := by
  have hm : mvalid xs = true := by simpa [mvalid] using h
  rw [dropM, if_pos hm]
  unfold busyM
  simp
theorem drop_MV {xs : List Mv} (h : MV xs) : MV (dropM xs) := by
  have hm : mvalid xs = true := by simpa [mvalid] using h
  refine ⟨fun m h2 => h.1 m ((drop_mem h m).1 h2).1, ?_⟩
  rw [dropM, if_pos hm]
  unfold busyM
  exact h.2.sublist (List.filter_sublist.map _)
theorem drop_same {xs : List Mv} (h : MV xs) : sameM (dropM xs) xs = true :=
  sameM_like h (drop_MV h) fun m hm => by rw [drop_mem h]; exact ⟨fun h => h.1, fun h => ⟨h, hm⟩⟩
theorem sort_list {xs : List Mv} (h : MV xs) : sortM xs = ((List.range 9).filter (hasT (tabOf xs))).map fun p => (nm p, tabOf xs p) := sortM_mvT h
theorem sort_mem {xs : List Mv} (h : MV xs) (m : Mv) : m ∈ sortM xs ↔ m ∈ xs := by
  have hm : mvalid xs = true := by simpa [mvalid] using h
  rw [sortM, if_pos hm, sortO]
  simp only [List.mem_flatMap, List.mem_range, List.mem_filter, atP, decide_eq_true_eq]
  constructor
  · rintro ⟨p, _, h1, _⟩; exact h1
  · intro h1
    have h2 := h.1 m h1
    unfold mok at h2; rw [Bool.and_eq_true] at h2
    obtain ⟨p, hp, e⟩ := place_of h2.1
    exact ⟨p, hp, h1, e⟩
/-- where the places of sorted moves stand -/
theorem sort_up {xs : List Mv} (h : MV xs) (k : Nat) (hk : k + 1 < (sortM xs).length) : pmI ((sortM xs)[k]'(by omega)).1 < pmI (sortM xs)[k + 1].1 := by
  have hpw : ((List.range 9).filter (hasT (tabOf xs))).Pairwise (· < ·) := List.Pairwise.filter _ List.pairwise_lt_range
  have h9 : ∀ p ∈ (List.range 9).filter (hasT (tabOf xs)), p < 9 := fun p hp => List.mem_range.1 (List.mem_filter.1 hp).1
  have e := sort_list h
  generalize (List.range 9).filter (hasT (tabOf xs)) = P at *
  have hl : k + 1 < P.length := by rw [e, List.length_map] at hk; exact hk
  have h1 : (sortM xs)[k]'(by omega) = (nm P[k], tabOf xs P[k]) := by simp [e]
  have h2 : (sortM xs)[k + 1] = (nm P[k + 1], tabOf xs P[k + 1]) := by simp [e]
  rw [h1, h2]
  show pmI (nm P[k]) < pmI (nm P[k + 1])
  rw [pmI_yes (h9 _ (List.getElem_mem _)) rfl, pmI_yes (h9 _ (List.getElem_mem _)) rfl]
  have := List.pairwise_iff_getElem.1 hpw k (k + 1) (by omega) hl (by omega)
  omega
theorem sort_MV {xs : List Mv} (h : MV xs) : MV (sortM xs) := by
  refine ⟨fun m hm => h.1 m ((sort_mem h m).1 hm), ?_⟩
  rw [List.nodup_iff_pairwise_ne, List.pairwise_iff_getElem]
  intro i j hi hj hij he
  have hpw : ((List.range 9).filter (hasT (tabOf xs))).Pairwise (· < ·) := List.Pairwise.filter _ List.pairwise_lt_range
  have h9 : ∀ p ∈ (List.range 9).filter (hasT (tabOf xs)), p < 9 := fun p hp => List.mem_range.1 (List.mem_filter.1 hp).1
  have e := sort_list h
  generalize (List.range 9).filter (hasT (tabOf xs)) = P at *
  simp only [e, List.map_map, List.length_map, List.getElem_map, Function.comp] at hi hj he
  have h1 := List.pairwise_iff_getElem.1 hpw i j hi hj hij
  have h2 := pmI_yes (h9 _ (List.getElem_mem hi)) rfl
  have h3 := pmI_yes (h9 _ (List.getElem_mem hj)) rfl
  rw [he, h3] at h2
  omega
theorem sort_same {xs : List Mv} (h : MV xs) : sameM (sortM xs) xs = true := sameM_like h (sort_MV h) fun m _ => sort_mem h m
theorem sort_len {xs : List Mv} (h : MV xs) : (sortM xs).length = xs.length := by
  have h1 := nodup_le _ (xs.map (·.1)) (sort_MV h).2 fun a ha => by
    obtain ⟨m, hm, e⟩ := List.mem_map.1 ha
    exact List.mem_map.2 ⟨m, (sort_mem h m).1 hm, e⟩
  have h2 := nodup_le _ ((sortM xs).map (·.1)) h.2 fun a ha => by
    obtain ⟨m, hm, e⟩ := List.mem_map.1 ha
    exact List.mem_map.2 ⟨m, (sort_mem h m).2 hm, e⟩
  simp only [List.length_map] at h1 h2
  omega
end Go.PM
namespace Go.PM
open Go.RowKit
theorem rdS_value {f : Nat → UInt8} {a : ByteArray} (h : isP a = true) : rdS f a = f (pidx a) := by
  rw [rdS_cell (isP_isC h).1, (isP_isC h).2]
theorem rdS_dig {f : Nat → UInt8} {a : ByteArray} (h : isS a = true) (hp : isP a = false) : (⟨#[rdS f a]⟩ : ByteArray) = a := by
  have hd : isD a = true := by unfold isS at h; rw [hp, Bool.false_or] at h; exact h
  rw [rdS_digit (isD_notC hd)]
  obtain ⟨c, rfl⟩ := one_of_size (isD_size hd)
  simp [fc]
theorem srcM_S {xs : List Mv} (h : MV xs) {a : ByteArray} (ha : isP a = true) : isS (srcM xs a) = true := by
  unfold srcM
  cases hf : xs.find? (fun m => decide (m.1 = a)) with
  | none => show isS a = true; unfold isS; rw [ha]; rfl
  | some m =>
    have hm := h.1 m (List.mem_of_find?_eq_some hf)
    unfold mok at hm; rw [Bool.and_eq_true] at hm
    exact hm.2
theorem ao_cell {xs : List Mv} (h : MV xs) (f : Nat → UInt8) (k : Nat) (hk : k < 9) : (stB (aoS (tabOf xs) f)).extract k (k + 1) = ⟨#[rdS f (srcM xs (nm k))]⟩ := by
  rw [stB_cell _ k (by omega)]
  have h1 := srcM_place h (isP_nm hk)
  rw [pidx_nm hk] at h1
  unfold aoS
  rw [if_pos hk, h1]
theorem ofB_cell {s : ByteArray} (h : s.size = 11) (k : Nat) (hk : k < 11) : s.extract k (k + 1) = ⟨#[ofB s k]⟩ := by
  have := stB_cell (ofB s) k hk
  rw [ofB_stB h] at this
  exact this
theorem ao_valid {xs : List Mv} (h : MV xs) {s : ByteArray} (hs : stateV s = true) : stateV (stB (aoS (tabOf xs) (ofB s))) = true := by
  have h11 := (stateV_of hs).1
  unfold stateV at hs
  rw [Bool.and_eq_true, List.all_eq_true] at hs
  have hf : ∀ q, q < 11 → isV (ofB s q) = true := fun q hq => by
    refine hs.1 _ ?_
    have hl : q < s.data.toList.length := by rw [size_data]; omega
    unfold ofB
    rw [List.getD_eq_getElem?_getD, List.getElem?_eq_getElem hl]
    exact List.getElem_mem hl
  have hg : ∀ q, q < 11 → isV (aoS (tabOf xs) (ofB s) q) = true := fun q hq => by
    unfold aoS
    split
    · next hq9 =>
      have h1 := srcM_place h (isP_nm hq9)
      rw [pidx_nm hq9] at h1
      rw [h1]
      have hS := srcM_S h (isP_nm hq9)
      rcases Bool.eq_false_or_eq_true (isP (srcM xs (nm q))) with hp | hp
      · rw [rdS_value hp]
        exact hf _ (by have := (pidx_spec hp).1; omega)
      · have hd : isD (srcM xs (nm q)) = true := by unfold isS at hS; rw [hp, Bool.false_or] at hS; exact hS
        rw [rdS_digit (isD_notC hd)]
        obtain ⟨c, hc⟩ := one_of_size (isD_size hd)
        rw [hc] at hd ⊢
        have h2 : 48 ≤ c.toNat ∧ c.toNat ≤ 57 := by simpa [isD] using hd
        simp [fc, isV, h2]
    · exact hf q hq
  generalize aoS (tabOf xs) (ofB s) = g at *
  unfold stateV
  rw [Bool.and_eq_true]
  refine ⟨?_, by simp [stB_size]⟩
  rw [List.all_eq_true]
  intro x hx
  have : x = g 0 ∨ x = g 1 ∨ x = g 2 ∨ x = g 3 ∨ x = g 4 ∨ x = g 5 ∨ x = g 6 ∨ x = g 7 ∨ x = g 8 ∨ x = g 9 ∨ x = g 10 := by simpa [stB] using hx
  rcases this with rfl | rfl | rfl | rfl | rfl | rfl | rfl | rfl | rfl | rfl | rfl <;> exact hg _ (by decide)
theorem ao_tail {xs : List Mv} {s : ByteArray} (h : s.size = 11) : (stB (aoS (tabOf xs) (ofB s))).extract 9 11 = s.extract 9 11 := by
  obtain ⟨⟨l⟩⟩ := s
  have hl : l.length = 11 := h
  match l, hl with
  | [a0, a1, a2, a3, a4, a5, a6, a7, a8, a9, a10], _ => rfl
end Go.PM
namespace Go.Proofs.YtcpibkffeenehaaDoor
open Go.RowKit Go.PM
end Go.Proofs.YtcpibkffeenehaaDoor
namespace Go.PM
open Go.RowKit
theorem powM_tab {xs : List Mv} (h : MV xs) {d : Nat → ByteArray} {n : Nat} (hn : n ≤ 60) (hd : ∀ p, p < 9 → srcT d p = pwF (srcT (tabOf xs)) n p) : mvT (noIdle d) (List.range 9) = powM xs (n : Int) := by
  have m1 : mvalid xs = true := by simpa [mvalid] using h
  have hok : powOk xs (n : Int) = true := by
    unfold powOk
    rw [m1]
    simp
    omega
  rw [powM_yes hok, mvT_idle]
  refine lsF_congr fun p hp => ?_
  rw [hd p hp]
  exact pwF_congr (fun q hq => srcT_M h hq) n p hp
end Go.PM
namespace Go.Proofs.YtcpibkffeenehaaDoor
open Go.RowKit Go.PM

set_option maxRecDepth 100000 in
set_option maxHeartbeats 2000000 in
theorem imComposeMoves_c (xs ys : List Mv) (v u : Value) (w : World) (hx : RdM w v xs) (hy : RdM w u ys) :
    Calls Tryd.prog 34 #[v, u] w fun e w' => ∃ v', e = .returned (.tuple #[v', .bool (mvalid xs && mvalid ys)]) ∧ w'.ownsRow w.heap.size 60 2 v' (compM xs ys).length (mcells (compM xs ys)) ∧ Below w.heap.size w w' := by
  have HY := Lib.hid (fun W (hW : Below w.heap.size w W) => hy.below hW)
  by_cases h1 : MV xs
  · have HX := Lib.hid (tableOf_yes xs h1 v w hx)
    have HM1 := Lib.hid (show mvalid xs = true by simpa [mvalid] using h1)
    by_cases h2 : MV ys
    · have HT := Lib.hid (fun W hW => tableOf_yes ys h2 u W hW)
      have HM2 := Lib.hid (show mvalid ys = true by simpa [mvalid] using h2)
      have HR := Lib.hid (compM_tab h1 h2)
      have HTH := Lib.hid (fun W => then_v (tabOf xs) (tabOf ys) (SVal_tab h2) W)
      clear h1 h2 hx hy
      go_enter Tryd.func34, Tryd.ntmps34
      go_wp2_with fail
      refine HX.out.mono ?_
      rintro e w1 ⟨rfl, hb1⟩
      have hs1 := hb1.size
      have hy1 := HY.out _ (hb1.alloc hs1 (.cells (tabA (tabOf xs)) 63))
      go_wp2_with fail
      refine (HT.out _ hy1).mono ?_
      rintro e w2 ⟨rfl, hb2⟩
      have k1 : At (w1.alloc (.cells (tabA (tabOf xs)) 63)) w1.heap.size 63 (tabA (tabOf xs)) := At.new w1 _ _
      have k2 := (k1.keep hb2).alloc (.cells (tabA (tabOf ys)) 63)
      have k3 := At.new w2 63 (tabA (tabOf ys))
      have hB2 := (hb1.alloc hs1 (.cells (tabA (tabOf xs)) 63)).trans (hb2.mono (by simp [World.size_alloc]; omega))
      have hs2 := hB2.size
      have hB3 := hB2.alloc hs2 (.cells (tabA (tabOf ys)) 63)
      have hs3 := hB3.size
      clear hb2 k1 hy1 hb1
      generalize thenF (tabOf xs) (tabOf ys) = tt at *
      generalize tabOf xs = f at *
      generalize tabOf ys = g at *
      go_wp2_with (first | (refine ld_row rfl 63 (.tmp 6) rfl w1.heap.size 63 (tabC f) k2 (by rfl) 9 9 Tryd.underlying63 (by kernel_rfl) ?_) | (refine ld_row rfl 63 (.tmp 8) rfl w2.heap.size 63 (tabC g) k3 (by rfl) 9 9 Tryd.underlying63 (by kernel_rfl) ?_) | (go_at_call 60; refine (HTH.out _).mono ?_; rintro e w4 ⟨rfl, hb4⟩; refine held ?_))
      unfold Held
      have hB4 := hB3.trans (hb4.mono hs3)
      have hs4 := hB4.size
      clear hb4 k2 k3 hB3
      go_wp2_with (go_at_call 66; refine (idle_v tt _).mono ?_; rintro e w5 ⟨rfl, hb5⟩; refine held ?_)
      unfold Held
      have hB5 := hB4.trans (hb5.mono hs4)
      have hs5 := hB5.size
      clear hb5 hB4
      have HLI := Lib.hid (fun W => list_c (noIdle tt) W)
      rw [HR.out] at HLI
      go_wp2_with (go_at_call 67; refine (HLI.out _).mono ?_; rintro e w6 ⟨v', rfl, ho, hb6⟩; refine held ?_)
      unfold Held
      have hB6 := hB5.trans (hb6.mono hs5)
      have ho6 := own_more ho hs5
      clear hb6 hB5 ho
      go_wp2
      go_ret2
      exact ⟨_, by rw [HM1.out, HM2.out]; rfl, ho6, hB6⟩
    · have HT := Lib.hid (fun W hW => tableOf_no ys h2 u W hW)
      have HM2 := Lib.hid (show mvalid ys = false by simpa [mvalid] using h2)
      have HNO := Lib.hid (compM_no (xs := xs) (ys := ys) (by rw [HM2.out, Bool.and_false]))
      clear h1 h2 hx hy
      go_enter Tryd.func34, Tryd.ntmps34
      go_wp2_with fail
      refine HX.out.mono ?_
      rintro e w1 ⟨rfl, hb1⟩
      have hs1 := hb1.size
      have hy1 := HY.out _ (hb1.alloc hs1 (.cells (tabA (tabOf xs)) 63))
      go_wp2_with fail
      refine (HT.out _ hy1).mono ?_
      rintro e w2 ⟨rfl, hb2⟩
      have hB2 := (hb1.alloc hs1 (.cells (tabA (tabOf xs)) 63)).trans (hb2.mono (by simp [World.size_alloc]; omega))
      have hs2 := hB2.size
      clear hb2 hy1 hb1
      go_wp2
      go_ret2
      exact ⟨_, by rw [HM2.out, Bool.and_false]; rfl, by rw [HNO.out]; exact ⟨rfl, .inl ⟨rfl, rfl⟩⟩, by (repeat' (first | (with_reducible exact Below.refl _ _) | (with_reducible assumption) | (with_reducible refine Below.alloc ?_ ?_ _) | (with_reducible refine Below.drew ?_) | (with_reducible refine Below.setCell ?_ ?_ _) | (with_reducible exact Nat.le_refl _) | omega | ((repeat (first | rewrite [World.size_alloc] | rewrite [World.size_setCell] | rewrite [World.size_drew])); omega) | (simp; omega) | (simp; done)))⟩
  · have HM1 := Lib.hid (show mvalid xs = false by simpa [mvalid] using h1)
    have HNO := Lib.hid (compM_no (xs := xs) (ys := ys) (by rw [HM1.out, Bool.false_and]))
    have HX := Lib.hid (tableOf_no xs h1 v w hx)
    by_cases h2 : MV ys
    all_goals
      first | (have HT := Lib.hid (fun W hW => tableOf_yes ys h2 u W hW)) | (have HT := Lib.hid (fun W hW => tableOf_no ys h2 u W hW))
      clear h1 h2 hx hy
      go_enter Tryd.func34, Tryd.ntmps34
      go_wp2_with fail
      refine HX.out.mono ?_
      rintro e w1 ⟨rfl, hb1⟩
      have hs1 := hb1.size
      have hy1 := HY.out _ (hb1.alloc hs1 (.cells (tabA (fun _ => emp)) 63))
      go_wp2_with fail
      refine (HT.out _ hy1).mono ?_
      rintro e w2 ⟨rfl, hb2⟩
      have hB2 := (hb1.alloc hs1 (.cells (tabA (fun _ => emp)) 63)).trans (hb2.mono (by simp [World.size_alloc]; omega))
      have hs2 := hB2.size
      clear hb2 hy1 hb1
      go_wp2
      go_ret2
      exact ⟨_, by rw [HM1.out, Bool.false_and]; rfl, by rw [HNO.out]; exact ⟨rfl, .inl ⟨rfl, rfl⟩⟩, by (repeat' (first | (with_reducible exact Below.refl _ _) | (with_reducible assumption) | (with_reducible refine Below.alloc ?_ ?_ _) | (with_reducible refine Below.drew ?_) | (with_reducible refine Below.setCell ?_ ?_ _) | (with_reducible exact Nat.le_refl _) | omega | ((repeat (first | rewrite [World.size_alloc] | rewrite [World.size_setCell] | rewrite [World.size_drew])); omega) | (simp; omega) | (simp; done)))⟩
end Go.Proofs.YtcpibkffeenehaaDoor
namespace Go.Proofs.YtcpibkffeenehaaDoor
open Go.RowKit Go.PM
set_option maxRecDepth 100000 in
set_option maxHeartbeats 2000000 in
theorem eq_str (d : Nat) (a b : ByteArray) (W : World) : (Op.equalIn (d + 1) 9 (.string a) (.string b)).run Tryd.prog W = .ok (a == b) W := by
  simp [Op.equalIn, go_sem]
theorem eq_items (f g : Nat → ByteArray) (W : World) : ∀ is : List Nat, (∀ i ∈ is, i < 9) → (Op.eqItems 9999 9 1 (tabA f) (tabA g) is).run Tryd.prog W = .ok (is.all fun p => f p == g p) W := by
  intro is
  induction is with
  | nil => intro _; rfl
  | cons i is ih =>
    intro h
    have hi := h i (List.mem_cons_self ..)
    have h1 : (part 9 (tabA f) (i * 1)).run Tryd.prog W = .ok (.string (f i)) W := run_part_plain (P := Tryd.prog) W (by kernel_rfl) (by rw [Nat.mul_one]; exact tabC_at f i hi)
    have h2 : (part 9 (tabA g) (i * 1)).run Tryd.prog W = .ok (.string (g i)) W := run_part_plain (P := Tryd.prog) W (by kernel_rfl) (by rw [Nat.mul_one]; exact tabC_at g i hi)
    have h3 := eq_str 9998 (f i) (g i) W
    rw [Op.eqItems, Sem.run_bind, h1, Result.andThen_ok, Sem.run_bind, h2, Result.andThen_ok, Sem.run_bind, h3, Result.andThen_ok, List.all_cons]
    cases hb : (f i == g i)
    · rfl
    · rw [if_neg (by decide), ih (fun j hj => h j (List.mem_cons_of_mem _ hj)), Bool.true_and]
theorem eq_tab (f g : Nat → ByteArray) (W : World) : (Op.equal 63 (tabX f) (tabX g)).run Tryd.prog W = .ok ((List.range 9).all fun p => f p == g p) W := by
  have his : (Tryd.prog.info? 9).isSome = true := by kernel_rfl
  obtain ⟨i, hi⟩ := Option.isSome_iff_exists.1 his
  have hc : Tryd.prog.cellsOf 9 = 1 := by kernel_rfl
  have h := run_equalIn_array (P := Tryd.prog) (w := W) 9999 (t := 63) (e := 9) (n := 9) (tabA f) (tabA g) Tryd.underlying63 hi
  rw [hc] at h
  exact h.trans (eq_items f g W _ (fun i hi => by simpa using hi))
theorem beq_ba (a b : ByteArray) : (a == b) = decide (a = b) := by
  cases a with | mk a =>
  cases b with | mk b =>
  have h : ((ByteArray.mk a) == (ByteArray.mk b)) = (a == b) := rfl
  rw [h]
  by_cases e : a = b
  · subst e; simp
  · have : ¬ (ByteArray.mk a) = (ByteArray.mk b) := fun x => e (congrArg ByteArray.data x)
    simp [e]
theorem all_beq (f g : Nat → ByteArray) (l : List Nat) : (l.all fun p => f p == g p) = l.all fun p => decide (f p = g p) := by
  have : (fun p => f p == g p) = fun p => decide (f p = g p) := by funext p; exact beq_ba _ _
  rw [this]
end Go.Proofs.YtcpibkffeenehaaDoor
namespace Go.Proofs.YtcpibkffeenehaaDoor
open Go.RowKit Go.PM

set_option maxRecDepth 100000 in
set_option maxHeartbeats 1000000 in
/-- two moves as values are compared text by text -/
theorem eq_mv (a b c d : ByteArray) (W : World) : (Op.equalIn 10000 60 (.agg #[.string a, .string b]) (.agg #[.string c, .string d])).run Tryd.prog W = .ok (mvEq a b c d) W := by
  have hs : Tryd.prog.stoodInHeld 60 = false := by kernel_rfl
  have e1 : (a == c) = decide (a = c) := beq_ba _ _
  have e2 : (b == d) = decide (b = d) := beq_ba _ _
  have q1 := eq_str 9998 a c
  have q2 := eq_str 9998 b d
  rw [Op.equalIn]
  generalize hE : Op.equalIn 9999 = E at *
  simp only [mvEq]
  rw [e1] at q1
  rw [e2] at q2
  clear e1 e2 hE
  by_cases h1 : a = c
  · by_cases h2 : b = d
    · subst h1; subst h2
      simp at q1 q2
      simp [go_sem, hs, q1, q2]
    · subst h1
      simp [h2] at q1 q2
      simp [go_sem, hs, q1, q2, h2]
  · simp [h1] at q1
    simp [go_sem, hs, q1, h1]

set_option maxRecDepth 100000 in
set_option maxHeartbeats 1600000 in
theorem pmSame_c (xs ys : List Mv) (v u : Value) (w : World) (hx : RdM w v xs) (hy : RdM w u ys) :
    Calls Tryd.prog 19 #[v, u] w fun e w' => e = .returned (.bool (decide (xs = ys))) ∧ Below w.heap.size w w' := by
  obtain ⟨A, cap, rfl, hn, hc, hcell⟩ := hx.open
  obtain ⟨A', cap', rfl, hn', hc', hcell'⟩ := hy.open
  clear hx hy
  rcases Nat.lt_or_ge ys.length xs.length with hle | hle
  · have hm : min (xs.length : Int) (ys.length : Int) = ys.length := by omega
    have HLE := Lib.hid hle
    clear hle
    go_enter Tryd.func19, Tryd.ntmps19
    go_wp2
    go_loopw [11] (fun i wr => ∃ (k : Nat), k ≤ ys.length ∧ i = .int .i64 k ∧ Hid (xs.take k = ys.take k) ∧ Below w.heap.size w wr) (fun i _ => ys.length - (intOf i).toNat)
    case atStart => exact ⟨0, by omega, rfl, by show _ = _; simp, Below.refl _ _⟩
    case round =>
      obtain ⟨k, hk, rfl, ht, hb⟩ := hrel
      by_cases hlt : k < ys.length
      · have hlt1 : k < xs.length := by have := HLE.out; omega
        have hlt2 : k < ys.length := by have := HLE.out; omega
        obtain ⟨b, off, rfl, hbl, hc1, hc2⟩ := hcell k hlt1
        obtain ⟨b', off', rfl, hbl', hc1', hc2'⟩ := hcell' k hlt2
        have hd1 := (hb.cell (p := ⟨b, off + k * 2, none⟩) hbl).trans hc1
        have hd2 := (hb.cell (p := ⟨b, off + k * 2 + 1, none⟩) hbl).trans hc2
        have hd3 := (hb.cell (p := ⟨b', off' + k * 2, none⟩) hbl').trans hc1'
        have hd4 := (hb.cell (p := ⟨b', off' + k * 2 + 1, none⟩) hbl').trans hc2'
        clear hc1 hc2 hcell hc1' hc2' hcell'
        have i1 : (k : Int) < (ys.length : Int) := by omega
        go_wp2
        have hx1 : ∀ x : Ext w.heap.size wr, x.val.cell? ⟨b, off + k * 2, none⟩ = some (.string xs[k].1) := fun x => (x.property.cell (p := ⟨b, _, none⟩) hbl).trans hd1
        have hx2 : ∀ x : Ext w.heap.size wr, x.val.cell? ⟨b, off + k * 2 + 1, none⟩ = some (.string xs[k].2) := fun x => (x.property.cell (p := ⟨b, _, none⟩) hbl).trans hd2
        have hx3 : ∀ x : Ext w.heap.size wr, x.val.cell? ⟨b', off' + k * 2, none⟩ = some (.string ys[k].1) := fun x => (x.property.cell (p := ⟨b', _, none⟩) hbl').trans hd3
        have hx4 : ∀ x : Ext w.heap.size wr, x.val.cell? ⟨b', off' + k * 2 + 1, none⟩ = some (.string ys[k].2) := fun x => (x.property.cell (p := ⟨b', _, none⟩) hbl').trans hd4
        clear hd1 hd2 hd3 hd4
        have i0 : (0 : Int) ≤ (k : Int) := by omega
        have i2 : (k : Int) < xs.length := by omega
        have i3 : (k : Int) < ys.length := by omega
        have hE := fun W => eq_mv xs[k].1 xs[k].2 ys[k].1 ys[k].2 W
        refine wp_region_ext w.heap.size (by kernel_rfl) (by kernel_rfl) ?_
        repeat (go_big_quiet_step (fail))
        refine wpQuiet_nil ?_
        intro w2 hw'
        obtain ⟨xw, hxw⟩ := hw'
        have hb2 := xw.property
        rw [← hxw] at hb2
        clear hxw xw
        clear hx1 hx2 hx3 hx4 hE
        go_wp2
        · have h : (!mvEq xs[k].1 xs[k].2 ys[k].1 ys[k].2) = true := by assumption
          go_ret
          refine ⟨?_, hb.trans hb2⟩
          have : ¬ xs = ys := by
            intro e; subst e; simp [mvEq] at h
          simp [this]
        · have h : (!mvEq xs[k].1 xs[k].2 ys[k].1 ys[k].2) = false := by assumption
          go_roundw
          case rel =>
            refine ⟨k + 1, by omega, by go_num, ?_, hb.trans hb2⟩
            show _ = _
            simp [mvEq] at h
            rw [take_snoc xs k hlt1, take_snoc ys k hlt2, ht.out, Prod.ext h.1 h.2]
          case measure => simp [intOf]; omega
      · have hk' : k = ys.length := by omega
        have h2 := ht.out
        have h3 := HLE.out
        rw [hk'] at h2
        have HD : Hid (((xs.length : Int) == (ys.length : Int)) = decide (xs = ys)) := by
          show _ = _
          by_cases he : xs.length = ys.length
          · rw [List.take_of_length_le (by omega), List.take_of_length_le (by omega)] at h2
            rw [h2]; simp
          · have h4 : ¬ xs = ys := fun e => he (by rw [e])
            have h5 : ¬ ((xs.length : Int) = (ys.length : Int)) := by omega
            rw [decide_eq_false h4]
            simpa using h5
        clear h2 h3 ht
        go_wp2
        go_ret
        exact ⟨by rw [← HD.out]; rfl, hb⟩
  · have hm : min (xs.length : Int) (ys.length : Int) = xs.length := by omega
    have HLE := Lib.hid hle
    clear hle
    go_enter Tryd.func19, Tryd.ntmps19
    go_wp2
    go_loopw [11] (fun i wr => ∃ (k : Nat), k ≤ xs.length ∧ i = .int .i64 k ∧ Hid (xs.take k = ys.take k) ∧ Below w.heap.size w wr) (fun i _ => xs.length - (intOf i).toNat)
    case atStart => exact ⟨0, by omega, rfl, by show _ = _; simp, Below.refl _ _⟩
    case round =>
      obtain ⟨k, hk, rfl, ht, hb⟩ := hrel
      by_cases hlt : k < xs.length
      · have hlt1 : k < xs.length := by have := HLE.out; omega
        have hlt2 : k < ys.length := by have := HLE.out; omega
        obtain ⟨b, off, rfl, hbl, hc1, hc2⟩ := hcell k hlt1
        obtain ⟨b', off', rfl, hbl', hc1', hc2'⟩ := hcell' k hlt2
        have hd1 := (hb.cell (p := ⟨b, off + k * 2, none⟩) hbl).trans hc1
        have hd2 := (hb.cell (p := ⟨b, off + k * 2 + 1, none⟩) hbl).trans hc2
        have hd3 := (hb.cell (p := ⟨b', off' + k * 2, none⟩) hbl').trans hc1'
        have hd4 := (hb.cell (p := ⟨b', off' + k * 2 + 1, none⟩) hbl').trans hc2'
        clear hc1 hc2 hcell hc1' hc2' hcell'
        have i1 : (k : Int) < (xs.length : Int) := by omega
        go_wp2
        have hx1 : ∀ x : Ext w.heap.size wr, x.val.cell? ⟨b, off + k * 2, none⟩ = some (.string xs[k].1) := fun x => (x.property.cell (p := ⟨b, _, none⟩) hbl).trans hd1
        have hx2 : ∀ x : Ext w.heap.size wr, x.val.cell? ⟨b, off + k * 2 + 1, none⟩ = some (.string xs[k].2) := fun x => (x.property.cell (p := ⟨b, _, none⟩) hbl).trans hd2
        have hx3 : ∀ x : Ext w.heap.size wr, x.val.cell? ⟨b', off' + k * 2, none⟩ = some (.string ys[k].1) := fun x => (x.property.cell (p := ⟨b', _, none⟩) hbl').trans hd3
        have hx4 : ∀ x : Ext w.heap.size wr, x.val.cell? ⟨b', off' + k * 2 + 1, none⟩ = some (.string ys[k].2) := fun x => (x.property.cell (p := ⟨b', _, none⟩) hbl').trans hd4
        clear hd1 hd2 hd3 hd4
        have i0 : (0 : Int) ≤ (k : Int) := by omega
        have i2 : (k : Int) < xs.length := by omega
        have i3 : (k : Int) < ys.length := by omega
        have hE := fun W => eq_mv xs[k].1 xs[k].2 ys[k].1 ys[k].2 W
        refine wp_region_ext w.heap.size (by kernel_rfl) (by kernel_rfl) ?_
        repeat (go_big_quiet_step (fail))
        refine wpQuiet_nil ?_
        intro w2 hw'
        obtain ⟨xw, hxw⟩ := hw'
        have hb2 := xw.property
        rw [← hxw] at hb2
        clear hxw xw
        clear hx1 hx2 hx3 hx4 hE
        go_wp2
        · have h : (!mvEq xs[k].1 xs[k].2 ys[k].1 ys[k].2) = true := by assumption
          go_ret
          refine ⟨?_, hb.trans hb2⟩
          have : ¬ xs = ys := by
            intro e; subst e; simp [mvEq] at h
          simp [this]
        · have h : (!mvEq xs[k].1 xs[k].2 ys[k].1 ys[k].2) = false := by assumption
          go_roundw
          case rel =>
            refine ⟨k + 1, by omega, by go_num, ?_, hb.trans hb2⟩
            show _ = _
            simp [mvEq] at h
            rw [take_snoc xs k hlt1, take_snoc ys k hlt2, ht.out, Prod.ext h.1 h.2]
          case measure => simp [intOf]; omega
      · have hk' : k = xs.length := by omega
        have h2 := ht.out
        have h3 := HLE.out
        rw [hk'] at h2
        have HD : Hid (((xs.length : Int) == (ys.length : Int)) = decide (xs = ys)) := by
          show _ = _
          by_cases he : xs.length = ys.length
          · rw [List.take_of_length_le (by omega), List.take_of_length_le (by omega)] at h2
            rw [h2]; simp
          · have h4 : ¬ xs = ys := fun e => he (by rw [e])
            have h5 : ¬ ((xs.length : Int) = (ys.length : Int)) := by omega
            rw [decide_eq_false h4]
            simpa using h5
        clear h2 h3 ht
        go_wp2
        go_ret
        exact ⟨by rw [← HD.out]; rfl, hb⟩
end Go.Proofs.YtcpibkffeenehaaDoor
namespace Go.PO
open Go.PM Go.RowKit
theorem own_rdc {w : World} {base n : Nat} {e : TypeId} {v : Value} {xs : List Mv} (h : w.ownsRow base e 2 v n (mcells xs)) (hn : n = xs.length) : ∃ A cap, v = .slice A xs.length cap ∧ RdM w (.slice A xs.length cap) xs := by
  subst hn
  have hr : RdM w v xs := Rd.of_own h
  obtain ⟨A, cap, rfl, _⟩ := hr.open
  exact ⟨A, cap, rfl, hr⟩
theorem comp_MV {xs ys : List Mv} (h1 : MV xs) (h2 : MV ys) : MV (compM xs ys) := by
  rw [compM_yes (by simpa [mvalid] using h1) (by simpa [mvalid] using h2)]
  exact lsF_MV (SVal_cmp (SVal_M h1) (SVal_M h2))
theorem comp_src {xs ys : List Mv} (h1 : MV xs) (h2 : MV ys) {p : Nat} (hp : p < 9) : srcM (compM xs ys) (nm p) = cmpM xs ys p := by
  rw [compM_yes (by simpa [mvalid] using h1) (by simpa [mvalid] using h2)]
  exact lsF_src _ hp
theorem comp_assoc {xs ys zs : List Mv} (h1 : MV xs) (h2 : MV ys) (h3 : MV zs) : compM (compM xs ys) zs = compM xs (compM ys zs) := by
  have m1 : mvalid xs = true := by simpa [mvalid] using h1
  have m3 : mvalid zs = true := by simpa [mvalid] using h3
  have m12 : mvalid (compM xs ys) = true := by simpa [mvalid] using comp_MV h1 h2
  have m23 : mvalid (compM ys zs) = true := by simpa [mvalid] using comp_MV h2 h3
  rw [compM_yes m12 m3, compM_yes m1 m23]
  refine lsF_congr fun p hp => ?_
  show cmpF (fun q => srcM (compM xs ys) (nm q)) (fun q => srcM zs (nm q)) p = cmpF (fun q => srcM xs (nm q)) (fun q => srcM (compM ys zs) (nm q)) p
  rw [cmpF_congr (C := cmpM xs ys) (D := fun q => srcM zs (nm q)) (fun q hq => comp_src h1 h2 hq) (fun _ _ => rfl) hp]
  rw [cmpF_congr (A := fun q => srcM xs (nm q)) (B := fun q => srcM (compM ys zs) (nm q)) (C := fun q => srcM xs (nm q)) (D := cmpM ys zs) (fun _ _ => rfl) (fun q hq => comp_src h2 h3 hq) hp]
  exact cmpF_assoc (fun q => srcM xs (nm q)) (fun q => srcM ys (nm q)) (fun q => srcM zs (nm q)) p
theorem aoS_congr (t : Nat → ByteArray) {f g : Nat → UInt8} (h : ∀ p, p < 11 → f p = g p) : ∀ p, p < 11 → aoS t f p = aoS t g p := by
  intro p hp
  unfold aoS
  by_cases h9 : p < 9
  · rw [if_pos h9, if_pos h9]
    unfold rdS
    by_cases hc : isC (srcT t p) = true
    · rw [if_pos hc, if_pos hc, h _ (cidx_lt hc)]
    · rw [if_neg hc, if_neg hc]
  · rw [if_neg h9, if_neg h9]; exact h p hp
theorem ao_comp {xs ys : List Mv} (h1 : MV xs) (h2 : MV ys) (f : Nat → UInt8) : ∀ p, p < 11 → aoS (tabOf (compM xs ys)) f p = aoS (tabOf ys) (aoS (tabOf xs) f) p := by
  intro p hp
  by_cases h9 : p < 9
  · have e1 : aoS (tabOf (compM xs ys)) f p = rdS f (cmpM xs ys p) := by
      show (if p < 9 then rdS f (srcT (tabOf (compM xs ys)) p) else f p) = _
      rw [if_pos h9, srcT_M (comp_MV h1 h2) h9, comp_src h1 h2 h9]
    have e2 : aoS (tabOf ys) (aoS (tabOf xs) f) p = rdS (aoS (tabOf xs) f) (srcM ys (nm p)) := by
      show (if p < 9 then rdS (aoS (tabOf xs) f) (srcT (tabOf ys) p) else _) = _
      rw [if_pos h9, srcT_M h2 h9]
    rw [e1, e2, cmpM_eq]
    have hs : isS (srcM ys (nm p)) = true := SVal_M h2 p h9
    by_cases hP : isP (srcM ys (nm p)) = true
    · rw [if_pos hP]
      have hq := pidx_spec hP
      have hc := isP_isC hP
      rw [rdS_cell hc.1, hc.2]
      show _ = (if pidx (srcM ys (nm p)) < 9 then rdS f (srcT (tabOf xs) (pidx (srcM ys (nm p)))) else _)
      rw [if_pos hq.1, srcM_place h1 hP]
    · rw [if_neg hP]
      have hD : isD (srcM ys (nm p)) = true := by
        unfold isS at hs; rw [Bool.or_eq_true] at hs
        exact hs.resolve_left hP
      rw [rdS_digit (isD_notC hD), rdS_digit (isD_notC hD)]
  · show (if p < 9 then _ else f p) = (if p < 9 then _ else (if p < 9 then _ else f p))
    rw [if_neg h9, if_neg h9, if_neg h9]
theorem isV_digit {a : ByteArray} (h : isD a = true) : isV (fc a) = true := by
  obtain ⟨c, rfl⟩ := one_of_size (isD_size h)
  have : 48 ≤ c.toNat ∧ c.toNat ≤ 57 := by simpa [isD] using h
  show isV c = true
  unfold isV
  simp [this]
theorem stateV_stB {g : Nat → UInt8} (h : ∀ q, q < 11 → isV (g q) = true) : stateV (stB g) = true := by
  unfold stateV stB
  simp [h 0 (by omega), h 1 (by omega), h 2 (by omega), h 3 (by omega), h 4 (by omega), h 5 (by omega), h 6 (by omega), h 7 (by omega), h 8 (by omega), h 9 (by omega), h 10 (by omega), ByteArray.size]
theorem isV_ofB {s : ByteArray} (h : stateV s = true) : ∀ q, q < 11 → isV (ofB s q) = true := by
  intro q hq
  unfold stateV at h
  rw [Bool.and_eq_true, decide_eq_true_eq] at h
  have hl : s.data.toList.length = 11 := by rw [size_data]; exact h.2
  unfold ofB
  rw [List.getD_eq_getElem?_getD, List.getElem?_eq_getElem (by omega)]
  exact List.all_eq_true.1 h.1 _ (List.getElem_mem _)
theorem isV_ao {xs : List Mv} (h : MV xs) {f : Nat → UInt8} (hf : ∀ q, q < 11 → isV (f q) = true) : ∀ q, q < 11 → isV (aoS (tabOf xs) f q) = true := by
  intro q hq
  unfold aoS
  by_cases h9 : q < 9
  · rw [if_pos h9]
    have := src_okC h q h9
    unfold okC at this
    rw [Bool.or_eq_true] at this
    by_cases hc : isC (srcT (tabOf xs) q) = true
    · rw [rdS_cell hc]; exact hf _ (cidx_lt hc)
    · have hd := this.resolve_left hc
      rw [rdS_digit (isD_notC hd)]; exact isV_digit hd
  · rw [if_neg h9]; exact hf q hq
/-- what both do one after the other they do at once -/
theorem ao_both {xs ys : List Mv} (h1 : MV xs) (h2 : MV ys) {s : ByteArray} (hs : stateV s = true) :
    aoB ys (aoB xs s) = aoB (compM xs ys) s ∧ (mvalid (compM xs ys) && stateV s) = true ∧ (aoB xs s).size = 11 := by
  have m1 : mvalid xs = true := by simpa [mvalid] using h1
  have m2 : mvalid ys = true := by simpa [mvalid] using h2
  have m3 : mvalid (compM xs ys) = true := by simpa [mvalid] using comp_MV h1 h2
  have e1 : aoB xs s = stB (aoS (tabOf xs) (ofB s)) := by rw [aoB, m1, hs]; rfl
  have hv : stateV (aoB xs s) = true := by rw [e1]; exact stateV_stB (isV_ao h1 (isV_ofB hs))
  refine ⟨?_, by rw [m3, hs]; rfl, by rw [e1]; rfl⟩
  rw [aoB, m2, hv]
  rw [show aoB (compM xs ys) s = stB (aoS (tabOf (compM xs ys)) (ofB s)) by rw [aoB, m3, hs]; rfl]
  show stB (aoS (tabOf ys) (ofB (aoB xs s))) = _
  refine stB_congr fun p hp => ?_
  rw [ao_comp h1 h2 _ p hp, e1]
  exact aoS_congr _ (fun q hq => stB_at _ q hq) p hp
theorem RdB.more {w w' : World} {B n : Nat} {v : Value} (h : RdB w B v n) (hb : Below w.heap.size w w') (hB : B ≤ w'.heap.size) : RdB w' w'.heap.size v n := by
  obtain ⟨A, cap, e, h1, h2, h3⟩ := h.keep (grown_below hb none) (fun r e => by cases e)
  refine ⟨A, cap, e, h1, h2, fun k hk => ?_⟩
  obtain ⟨b, off, c, e1, hb, hl, hc⟩ := h3 k hk
  exact ⟨b, off, c, e1, by omega, hl, hc⟩
end Go.PO
namespace Go.Proofs.YtcpibkffeenehaaDoor
open Go.RowKit Go.PM Go.PO

theorem imCompose_r (xs ys : List Mv) (v u : Value) (b : Bool) (hb : (mvalid xs && mvalid ys) = b) (w : World) (hx : RdM w v xs) (hy : RdM w u ys) :
    Calls Tryd.prog 34 #[v, u] w fun e w' => ∃ A cap, e = .returned (.tuple #[.slice A (compM xs ys).length cap, .bool b]) ∧ RdM w' (.slice A (compM xs ys).length cap) (compM xs ys) ∧ Below w.heap.size w w' :=
  (imComposeMoves_c xs ys v u w hx hy).mono fun e w' ⟨v', he, ho, hbl⟩ => by
    obtain ⟨A, cap, hv, hr⟩ := own_rdc ho rfl
    exact ⟨A, cap, by rw [he, hv, hb], hr, hbl⟩
theorem pmSame_yc (xs : List Mv) (v u : Value) (w : World) (hx : RdM w v xs) (hy : RdM w u xs) :
    Calls Tryd.prog 19 #[v, u] w fun e w' => e = .returned (.bool true) ∧ Below w.heap.size w w' := by
  have := pmSame_c xs xs v u w hx hy
  rwa [show decide (xs = xs) = true by simp] at this
end Go.Proofs.YtcpibkffeenehaaDoor
namespace Go.Proofs.YtcpibkffeenehaaDoor
open Go.PM Go.PD Go.PF Go.PW Go.PO Go.RowKit Go.Lib
theorem clM_range {ps az : List UInt8} (h : az.length = ps.length) : clM ps az = (List.range ps.length).map fun i => (ch (ps.getD i 0), ch (az.getD i 0)) := by
  apply List.ext_getElem
  · rw [clM_len ps az h, List.length_map, List.length_range]
  · intro k h1 h2
    have hk : k < ps.length := by rw [clM_len ps az h] at h1; exact h1
    rw [clM_at k h1 hk (by omega), List.getElem_map, List.getElem_range, List.getD_eq_getElem?_getD, List.getD_eq_getElem?_getD, List.getElem?_eq_getElem hk, List.getElem?_eq_getElem (by omega)]
    rfl
theorem sdT_size (ps az : List UInt8) : (sdT ps az).size = ((List.range ps.length).filter (sdH ps az)).length := by
  have : (sdT ps az).size = (pickL ps (sdH ps az) ps.length).length := by simp [sdT, pickB, ByteArray.size]
  rw [this]; simp [pickL]
theorem sdT_le (ps az : List UInt8) : (sdT ps az).size ≤ ps.length := pickB_size ps (sdH ps az) ps.length
theorem filt_add {α : Type _} (p : α → Bool) : ∀ l : List α, (l.filter p).length + (l.filter fun x => !p x).length = l.length
  | [] => rfl
  | a :: l => by
    have := filt_add p l
    cases h : p a <;> simp [h] <;> omega
theorem busy_cl {ps az : List UInt8} (h : clOk ps az = true) : (busyF (clM ps az) 9).length + (sdT ps az).size = ps.length := by
  rw [← busy_count (cl_MV h), sdT_size]
  unfold busyM
  rw [clM_range (cl_len h), List.filter_map, List.length_map]
  have e : ((fun m : Mv => decide (m.1 ≠ m.2)) ∘ fun i => ((ch (ps.getD i 0), ch (az.getD i 0)) : Mv)) = fun i => !sdH ps az i := by
    funext i
    unfold sdH
    show decide (ch (ps.getD i 0) ≠ ch (az.getD i 0)) = _
    by_cases he : ps.getD i 0 = az.getD i 0
    · rw [he]; simp
    · rw [decide_eq_true (p := ch (ps.getD i 0) ≠ ch (az.getD i 0)) (fun e => he (ch_inj e)), decide_eq_false he]; rfl
  rw [e]
  have := filt_add (sdH ps az) (List.range ps.length)
  rw [List.length_range] at this
  omega
theorem steady_all {ps az : List UInt8} (h : az.length = ps.length) : (sdT ps az).size = ps.length ↔ ps = az := by
  rw [sdT_size]
  constructor
  · intro e
    have e2 : ((List.range ps.length).filter (sdH ps az)).length = (List.range ps.length).length := by rw [e, List.length_range]
    rw [List.length_filter_eq_length_iff] at e2
    apply List.ext_getElem h.symm
    intro k h1 h2
    have := of_decide_eq_true (e2 k (List.mem_range.2 h1))
    rw [List.getD_eq_getElem?_getD, List.getD_eq_getElem?_getD, List.getElem?_eq_getElem h1, List.getElem?_eq_getElem h2] at this
    exact this
  · rintro rfl
    have : (List.range ps.length).filter (sdH ps ps) = List.range ps.length := List.filter_eq_self.2 fun k _ => decide_eq_true rfl
    rw [this, List.length_range]
theorem cloN_nil : cloN [] = 0 := by
  unfold cloN
  rw [List.length_eq_zero_iff, List.filter_eq_nil_iff]
  intro p _ h
  obtain ⟨n, o, h0, _, _, h3⟩ := cloB_iff.1 h
  have := (h3 0 h0).1
  cases this
/-- the cost of a call -/
theorem cost_cl {ps az : List UInt8} (h : clOk ps az = true) : cioI (clM ps az) = ((busyF (clM ps az) 9).length : Int) + ((closedB (clM ps az)).length : Int) := by
  unfold cioI; rw [cl_mv h]; rfl
theorem cost_zero {ps az : List UInt8} (h : clOk ps az = true) : cioI (clM ps az) = 0 ↔ ps = az := by
  rw [← steady_all (cl_len h)]
  have h1 := busy_cl h
  have h2 := cost_cl h
  constructor
  · intro e; omega
  · intro e
    have hb : (busyF (clM ps az) 9).length = 0 := by omega
    have hz : busyF (clM ps az) 9 = [] := List.length_eq_zero_iff.1 hb
    have hc := clo_closed (cl_MV h)
    rw [hz, cloN_nil] at hc
    omega
theorem cost_least {ps az : List UInt8} (h : clOk ps az = true) : (ps.length : Int) - ((sdT ps az).size : Int) ≤ cioI (clM ps az) := by
  have h1 := busy_cl h
  have h2 := cost_cl h
  omega
theorem cost_range {ps az : List UInt8} (h : clOk ps az = true) : 0 ≤ cioI (clM ps az) ∧ cioI (clM ps az) ≤ 1100 := by
  have h1 := busyF_len (clM ps az) 9
  have h2 := cost_cl h
  have h3 := closedB_len (clM ps az)
  omega
theorem cio_congr {xs ys : List Mv} (h1 : MV xs) (h2 : MV ys) (h : ∀ p, p < 9 → srcM xs (nm p) = srcM ys (nm p)) : cioI xs = cioI ys := by
  have m1 : mvalid xs = true := by simpa [mvalid] using h1
  have m2 : mvalid ys = true := by simpa [mvalid] using h2
  have e : busyF xs 9 = busyF ys 9 := by
    have l1 : busyF xs 9 = lsF (fun p => srcM xs (nm p)) 9 := rfl
    have l2 : busyF ys 9 = lsF (fun p => srcM ys (nm p)) 9 := rfl
    rw [l1, l2]
    exact lsF_congr h
  have c1 := clo_closed h1
  have c2 := clo_closed h2
  rw [e] at c1
  unfold cioI
  rw [m1, m2, e, ← c1, ← c2]
theorem same_of {xs ys : List Mv} (h1 : MV xs) (h2 : MV ys) (h : ∀ p, p < 9 → srcM xs (nm p) = srcM ys (nm p)) : sameM xs ys = true := by
  rw [sameM_all (fun p hp => by unfold sameAt; rw [h p hp, decide_eq_true rfl])]
  simp [mvalid, h1, h2]
theorem hd1_nm {p : Nat} (hp : p < 9) : ch (hd1 (nm p)) = nm p := by rw [nm_byte p hp]; rfl
/-- what gives parameters their values is the call with these arguments -/
theorem callS {S : Nat → ByteArray} (hS : SVal S) {ps : List UInt8} (hp : parOk ps = true) (hoff : ∀ p, p < 9 → hd1 (nm p) ∉ ps → S p = nm p) {az : List UInt8} (ha : az = arL (fun a => S (pidx a)) ps) :
    clOk ps az = true ∧ ∀ p, p < 9 → srcM (clM ps az) (nm p) = S p := by
  have hs : ∀ c ∈ ps, ((fun a => S (pidx a)) (ch c)).size = 1 := fun c hc => isS_size (hS _ (ch_nm (par_place hp c hc)).1)
  have hl : az.length = ps.length := by rw [ha]; exact arL_len hs
  have hat : ∀ k (h1 : k < ps.length) (h2 : k < az.length), ch az[k] = S (pidx (ch ps[k])) := fun k h1 h2 => by
    subst ha
    exact arL_at hs k h1 h2
  have hok : clOk ps az = true := cl_mk hp hl fun c hc => by
    obtain ⟨k, hk, rfl⟩ := List.getElem_of_mem hc
    rw [hat k (by omega) hk]
    exact hS _ (ch_nm (par_place hp _ (List.getElem_mem (by omega)))).1
  refine ⟨hok, fun p hp9 => ?_⟩
  by_cases hin : hd1 (nm p) ∈ ps
  · obtain ⟨k, hk, e⟩ := List.getElem_of_mem hin
    have h1 := cl_at hok k hk (by omega)
    rw [hat k hk (by omega), e, hd1_nm hp9, pidx_nm hp9] at h1
    exact h1
  · have h1 := cl_other hok hin
    rw [hd1_nm hp9] at h1
    rw [h1, hoff p hp9 hin]
/-- the same for a list -/
theorem ag_call {ps : List UInt8} {xs : List Mv} (h : agOk ps xs = true) : clOk ps (arL (srcM xs) ps) = true ∧ sameM (clM ps (arL (srcM xs) ps)) xs = true ∧ cioI (clM ps (arL (srcM xs) ps)) = cioI xs := by
  unfold agOk at h
  rw [Bool.and_eq_true, Bool.and_eq_true] at h
  obtain ⟨⟨h1, h2⟩, h3⟩ := h
  have hx : MV xs := by simpa [mvalid] using h2
  obtain ⟨k1, k2⟩ := callS (S := fun p => srcM xs (nm p)) (SVal_M hx) h1 (fun p _ hin => by
    refine Classical.byContradiction fun hne => ?_
    exact hin (agS_in h3 hne)) (az := arL (srcM xs) ps) (arL_congr fun c hc => by
      show _ = srcM xs (nm (pidx (ch c)))
      rw [(ch_nm (par_place h1 c hc)).2])
  exact ⟨k1, same_of (cl_MV k1) hx k2, cio_congr (cl_MV k1) hx k2⟩
theorem cl_off {ps az : List UInt8} (h : clOk ps az = true) {p : Nat} (hp : p < 9) (hin : hd1 (nm p) ∉ ps) : srcM (clM ps az) (nm p) = nm p := by
  have h1 := cl_other h hin
  rw [hd1_nm hp] at h1
  exact h1
theorem pw_off {S : Nat → ByteArray} {p : Nat} (hp : p < 9) (h : S p = nm p) : ∀ n, pwF S n p = nm p
  | 0 => rfl
  | n + 1 => by
    show cmpF (pwF S n) S p = _
    unfold cmpF
    rw [h, if_pos (isP_nm hp), pidx_nm hp]
    exact pw_off hp h n
theorem cmp_off {xs ys : List Mv} {p : Nat} (hp : p < 9) (h1 : srcM xs (nm p) = nm p) (h2 : srcM ys (nm p) = nm p) : cmpM xs ys p = nm p := by
  rw [cmpM_eq, h2, if_pos (isP_nm hp), h1]
theorem cmp_SVal {xs ys : List Mv} (h1 : MV xs) (h2 : MV ys) : SVal (cmpM xs ys) := SVal_cmp (SVal_M h1) (SVal_M h2)
/-- two calls, one behind the other -/
theorem ca_call {ps az bs : List UInt8} (h1 : clOk ps az = true) (h2 : clOk ps bs = true) :
    clOk ps (arL (caS (clM ps az) (clM ps bs)) ps) = true ∧ sameM (compM (clM ps az) (clM ps bs)) (clM ps (arL (caS (clM ps az) (clM ps bs)) ps)) = true := by
  obtain ⟨k1, k2⟩ := callS (S := cmpM (clM ps az) (clM ps bs)) (cmp_SVal (cl_MV h1) (cl_MV h2)) (cl_par h1) (fun p hp hin => cmp_off hp (cl_off h1 hp hin) (cl_off h2 hp hin)) (az := arL (caS (clM ps az) (clM ps bs)) ps) rfl
  refine ⟨k1, same_of (comp_MV (cl_MV h1) (cl_MV h2)) (cl_MV k1) fun p hp => ?_⟩
  rw [comp_src (cl_MV h1) (cl_MV h2) hp, k2 p hp]
/-- a call that is made so many times, and once more -/
theorem la_call {ps az : List UInt8} (h : clOk ps az = true) (n : Nat) :
    clOk ps (arL (laS (clM ps az) n) ps) = true ∧ arB (caS (clM ps (arL (laS (clM ps az) n) ps)) (clM ps az)) ps = arB (laS (clM ps az) (n + 1)) ps := by
  obtain ⟨k1, k2⟩ := callS (S := pwF (fun q => srcM (clM ps az) (nm q)) n) (SVal_pw (SVal_M (cl_MV h)) n) (cl_par h) (fun p hp hin => pw_off hp (cl_off h hp hin) n) (az := arL (laS (clM ps az) n) ps) rfl
  refine ⟨k1, arB_congr fun c hc => ?_⟩
  have hp := (ch_nm (par_place (cl_par h) c hc)).1
  unfold caS laS
  exact cmpF_congr (C := pwF (fun q => srcM (clM ps az) (nm q)) n) (D := fun q => srcM (clM ps az) (nm q)) (fun q hq => k2 q hq) (fun q _ => rfl) hp
/-- the state behind a call -/
def st9 : ByteArray := ⟨#[49, 50, 51, 52, 53, 54, 55, 56, 57, 120, 121]⟩
def dg9 : ByteArray := ⟨#[49, 50, 51, 52, 53, 54, 55, 56, 57]⟩
theorem st9_valid : stateV st9 = true := by decide +kernel
theorem st9_at : ∀ p, p < 9 → (⟨#[ofB st9 p]⟩ : ByteArray) = dg9.extract p (p + 1) := by
  intro p hp
  match p, hp with
  | 0, _ | 1, _ | 2, _ | 3, _ | 4, _ | 5, _ | 6, _ | 7, _ | 8, _ => decide +kernel
theorem ao_call {ps az : List UInt8} (h : clOk ps az = true) (k : Nat) (h1 : k < ps.length) (h2 : k < az.length) :
    (aoB (clM ps az) st9).extract (pidx (ch ps[k])) (pidx (ch ps[k]) + 1) = if isP (ch az[k]) then dg9.extract (pidx (ch az[k])) (pidx (ch az[k]) + 1) else ch az[k] := by
  have hp := ch_nm (par_place (cl_par h) _ (List.getElem_mem h1))
  have e := ao_cell (cl_MV h) (ofB st9) _ hp.1
  rw [hp.2, cl_at h k h1 h2] at e
  have hs := cl_src h _ (List.getElem_mem h2)
  have e2 : aoB (clM ps az) st9 = stB (aoS (tabOf (clM ps az)) (ofB st9)) := by
    unfold aoB okS
    rw [cl_mv h, st9_valid]; rfl
  rw [e2, e]
  split
  · next ha => rw [rdS_value ha]; exact st9_at _ (pidx_spec ha).1
  · next ha => exact rdS_dig hs (by simpa using ha)
end Go.Proofs.YtcpibkffeenehaaDoor
namespace Go.PM
open Go.RowKit
theorem sameM_tab {xs ys : List Mv} (h1 : MV xs) (h2 : MV ys) : sameM xs ys = (List.range 9).all (fun p => decide (mix (tabOf xs) 9 p = mix (tabOf ys) 9 p)) := by
  have m1 : mvalid xs = true := by simpa [mvalid] using h1
  have m2 : mvalid ys = true := by simpa [mvalid] using h2
  rw [sameM, m1, m2, Bool.true_and, Bool.true_and]
  apply Bool.eq_iff_iff.2
  rw [List.all_eq_true, List.all_eq_true]
  have key : ∀ p, p ∈ List.range 9 → sameAt xs ys p = decide (mix (tabOf xs) 9 p = mix (tabOf ys) 9 p) := fun p hp => by
    have hp9 : p < 9 := by simpa using hp
    simp only [sameAt, mix, if_pos hp9]
    rw [srcM_nm h1 hp9, srcM_nm h2 hp9]
  constructor
  · intro h p hp; rw [← key p hp]; exact h p hp
  · intro h p hp; rw [key p hp]; exact h p hp
end Go.PM
namespace Go.Proofs.YtcpibkffeenehaaDoor
open Go.RowKit Go.PM

set_option maxRecDepth 100000 in
set_option maxHeartbeats 2000000 in
theorem same_c (f g : Nat → ByteArray) (w : World) :
    Calls Tryd.prog 68 #[tabX f, tabX g] w fun e w' => e = .returned (.bool ((List.range 9).all fun p => decide (mix f 9 p = mix g 9 p))) ∧ Below w.heap.size w w' := by
  have hW : ∃ W3 : World, W3 = (w.alloc (.cells (tabA f) 63)).alloc (.cells (tabA g) 63) := ⟨_, rfl⟩
  obtain ⟨W3, hW3⟩ := hW
  have K1 : At W3 w.heap.size 63 (tabA f) := by rw [hW3]; exact (At.new w _ _).alloc _
  have K2 : At W3 (w.heap.size + 1) 63 (tabA g) := by
    rw [hW3]; have := At.new (w.alloc (.cells (tabA f) 63)) 63 (tabA g)
    rwa [World.size_alloc] at this
  have hB3 : Below w.heap.size w W3 := by rw [hW3]; (repeat' (first | (with_reducible exact Below.refl _ _) | (with_reducible assumption) | (with_reducible refine Below.alloc ?_ ?_ _) | (with_reducible refine Below.drew ?_) | (with_reducible refine Below.setCell ?_ ?_ _) | (with_reducible exact Nat.le_refl _) | omega | ((repeat (first | rewrite [World.size_alloc] | rewrite [World.size_setCell] | rewrite [World.size_drew])); omega) | (simp; omega) | (simp; done)))
  have B1 := K1.lt
  have B2 := K2.lt
  have hs3 := hB3.size
  have hc0 : ∀ x : Ext W3.heap.size W3, x.val.cell? ⟨w.heap.size, 0, none⟩ = some (.string (f 0)) := fun x => (x.property.cell (p := ⟨w.heap.size, 0, none⟩) B1).trans (K1.cell 0)
  have hc1 : ∀ x : Ext W3.heap.size W3, x.val.cell? ⟨w.heap.size, 1, none⟩ = some (.string (f 1)) := fun x => (x.property.cell (p := ⟨w.heap.size, 1, none⟩) B1).trans (K1.cell 1)
  have hc2 : ∀ x : Ext W3.heap.size W3, x.val.cell? ⟨w.heap.size, 2, none⟩ = some (.string (f 2)) := fun x => (x.property.cell (p := ⟨w.heap.size, 2, none⟩) B1).trans (K1.cell 2)
  have hc3 : ∀ x : Ext W3.heap.size W3, x.val.cell? ⟨w.heap.size, 3, none⟩ = some (.string (f 3)) := fun x => (x.property.cell (p := ⟨w.heap.size, 3, none⟩) B1).trans (K1.cell 3)
  have hc4 : ∀ x : Ext W3.heap.size W3, x.val.cell? ⟨w.heap.size, 4, none⟩ = some (.string (f 4)) := fun x => (x.property.cell (p := ⟨w.heap.size, 4, none⟩) B1).trans (K1.cell 4)
  have hc5 : ∀ x : Ext W3.heap.size W3, x.val.cell? ⟨w.heap.size, 5, none⟩ = some (.string (f 5)) := fun x => (x.property.cell (p := ⟨w.heap.size, 5, none⟩) B1).trans (K1.cell 5)
  have hc6 : ∀ x : Ext W3.heap.size W3, x.val.cell? ⟨w.heap.size, 6, none⟩ = some (.string (f 6)) := fun x => (x.property.cell (p := ⟨w.heap.size, 6, none⟩) B1).trans (K1.cell 6)
  have hc7 : ∀ x : Ext W3.heap.size W3, x.val.cell? ⟨w.heap.size, 7, none⟩ = some (.string (f 7)) := fun x => (x.property.cell (p := ⟨w.heap.size, 7, none⟩) B1).trans (K1.cell 7)
  have hc8 : ∀ x : Ext W3.heap.size W3, x.val.cell? ⟨w.heap.size, 8, none⟩ = some (.string (f 8)) := fun x => (x.property.cell (p := ⟨w.heap.size, 8, none⟩) B1).trans (K1.cell 8)
  have hd0 : ∀ x : Ext W3.heap.size W3, x.val.cell? ⟨w.heap.size + 1, 0, none⟩ = some (.string (g 0)) := fun x => (x.property.cell (p := ⟨w.heap.size + 1, 0, none⟩) B2).trans (K2.cell 0)
  have hd1 : ∀ x : Ext W3.heap.size W3, x.val.cell? ⟨w.heap.size + 1, 1, none⟩ = some (.string (g 1)) := fun x => (x.property.cell (p := ⟨w.heap.size + 1, 1, none⟩) B2).trans (K2.cell 1)
  have hd2 : ∀ x : Ext W3.heap.size W3, x.val.cell? ⟨w.heap.size + 1, 2, none⟩ = some (.string (g 2)) := fun x => (x.property.cell (p := ⟨w.heap.size + 1, 2, none⟩) B2).trans (K2.cell 2)
  have hd3 : ∀ x : Ext W3.heap.size W3, x.val.cell? ⟨w.heap.size + 1, 3, none⟩ = some (.string (g 3)) := fun x => (x.property.cell (p := ⟨w.heap.size + 1, 3, none⟩) B2).trans (K2.cell 3)
  have hd4 : ∀ x : Ext W3.heap.size W3, x.val.cell? ⟨w.heap.size + 1, 4, none⟩ = some (.string (g 4)) := fun x => (x.property.cell (p := ⟨w.heap.size + 1, 4, none⟩) B2).trans (K2.cell 4)
  have hd5 : ∀ x : Ext W3.heap.size W3, x.val.cell? ⟨w.heap.size + 1, 5, none⟩ = some (.string (g 5)) := fun x => (x.property.cell (p := ⟨w.heap.size + 1, 5, none⟩) B2).trans (K2.cell 5)
  have hd6 : ∀ x : Ext W3.heap.size W3, x.val.cell? ⟨w.heap.size + 1, 6, none⟩ = some (.string (g 6)) := fun x => (x.property.cell (p := ⟨w.heap.size + 1, 6, none⟩) B2).trans (K2.cell 6)
  have hd7 : ∀ x : Ext W3.heap.size W3, x.val.cell? ⟨w.heap.size + 1, 7, none⟩ = some (.string (g 7)) := fun x => (x.property.cell (p := ⟨w.heap.size + 1, 7, none⟩) B2).trans (K2.cell 7)
  have hd8 : ∀ x : Ext W3.heap.size W3, x.val.cell? ⟨w.heap.size + 1, 8, none⟩ = some (.string (g 8)) := fun x => (x.property.cell (p := ⟨w.heap.size + 1, 8, none⟩) B2).trans (K2.cell 8)
  have HSf : ∀ x : Ext W3.heap.size W3, Calls Tryd.prog 93 #[tabX f] x.val fun e w' => e = .returned (tabX (mix f 9)) ∧ Below x.val.heap.size x.val w' := fun x => sources_c f x.val
  have HSg : ∀ x : Ext W3.heap.size W3, Calls Tryd.prog 93 #[tabX g] x.val fun e w' => e = .returned (tabX (mix g 9)) ∧ Below x.val.heap.size x.val w' := fun x => sources_c g x.val
  generalize mix f 9 = f9 at *
  generalize mix g 9 = g9 at *
  have hEq : ∀ W, (Op.equalIn 10000 63 (tabX f9) (tabX g9)).run Tryd.prog W = .ok ((List.range 9).all fun p => decide (f9 p = g9 p)) W := fun W => by rw [← all_beq]; exact eq_tab f9 g9 W
  generalize ((List.range 9).all fun p => decide (f9 p = g9 p)) = r at *
  go_enter Tryd.func68, Tryd.ntmps68
  go_wp2
  rw [← hW3]
  refine wp_region_ext W3.heap.size (by kernel_rfl) (by kernel_rfl) ?_
  repeat (go_big_quiet_step ((go_at_call 93; first | (with_reducible exact ext_call _ (Nat.le_refl _) (HSf _)) | (with_reducible exact ext_call _ (Nat.le_refl _) (HSg _)))))
  refine wpQuiet_nil ?_
  intro w4 hw'
  obtain ⟨xw, hxw⟩ := hw'
  have hb4 := xw.property
  rw [← hxw] at hb4
  clear hxw xw
  clear hEq HSf HSg hc0 hd0 hc1 hd1 hc2 hd2 hc3 hd3 hc4 hd4 hc5 hd5 hc6 hd6 hc7 hd7 hc8 hd8
  go_wp2
  go_ret
  exact ⟨rfl, hB3.trans (hb4.mono hs3)⟩

set_option maxRecDepth 100000 in
set_option maxHeartbeats 2000000 in
theorem imSameMoves_c (xs ys : List Mv) (v u : Value) (w : World) (hx : RdM w v xs) (hy : RdM w u ys) :
    Calls Tryd.prog 35 #[v, u] w fun e w' => e = .returned (.bool (sameM xs ys)) ∧ Below w.heap.size w w' := by
  have HY := Lib.hid (fun W (hW : Below w.heap.size w W) => hy.below hW)
  by_cases h1 : MV xs
  · have HX := Lib.hid (tableOf_yes xs h1 v w hx)
    by_cases h2 : MV ys
    · have HT := Lib.hid (fun W hW => tableOf_yes ys h2 u W hW)
      have HE := Lib.hid (sameM_tab h1 h2)
      clear h1 h2 hx hy
      go_enter Tryd.func35, Tryd.ntmps35
      go_wp2_with fail
      refine HX.out.mono ?_
      rintro e w1 ⟨rfl, hb1⟩
      have hs1 := hb1.size
      have hy1 := HY.out _ (hb1.alloc hs1 (.cells (tabA (tabOf xs)) 63))
      go_wp2_with fail
      refine (HT.out _ hy1).mono ?_
      rintro e w2 ⟨rfl, hb2⟩
      have k1 : At (w1.alloc (.cells (tabA (tabOf xs)) 63)) w1.heap.size 63 (tabA (tabOf xs)) := At.new w1 _ _
      have k2 := k1.keep hb2
      have hB2 := (hb1.alloc hs1 (.cells (tabA (tabOf xs)) 63)).trans (hb2.mono (by simp [World.size_alloc]; omega))
      have hs2 := hB2.size
      have hB3 := hB2.alloc hs2 (.cells (tabA (tabOf ys)) 63)
      have hs3 := hB3.size
      clear hb2 k1 hy1
      generalize tabOf xs = f at *
      generalize tabOf ys = g at *
      obtain ⟨r, hr⟩ : ∃ r, r = ((List.range 9).all fun p => decide (mix f 9 p = mix g 9 p)) := ⟨_, rfl⟩
      have HS := Lib.hid (fun W => same_c f g W)
      rw [← hr] at HS HE
      clear hr
      have q0 : w2.cell? ⟨w1.heap.size, 0, none⟩ = some (.string (f 0)) := k2.cell 0
      have q1 : w2.cell? ⟨w1.heap.size, 1, none⟩ = some (.string (f 1)) := k2.cell 1
      have q2 : w2.cell? ⟨w1.heap.size, 2, none⟩ = some (.string (f 2)) := k2.cell 2
      have q3 : w2.cell? ⟨w1.heap.size, 3, none⟩ = some (.string (f 3)) := k2.cell 3
      have q4 : w2.cell? ⟨w1.heap.size, 4, none⟩ = some (.string (f 4)) := k2.cell 4
      have q5 : w2.cell? ⟨w1.heap.size, 5, none⟩ = some (.string (f 5)) := k2.cell 5
      have q6 : w2.cell? ⟨w1.heap.size, 6, none⟩ = some (.string (f 6)) := k2.cell 6
      have q7 : w2.cell? ⟨w1.heap.size, 7, none⟩ = some (.string (f 7)) := k2.cell 7
      have q8 : w2.cell? ⟨w1.heap.size, 8, none⟩ = some (.string (f 8)) := k2.cell 8
      have hl := k2.lt
      go_wp2_with fail
      refine (HS.out _).mono ?_
      rintro e w4 ⟨rfl, hb4⟩
      clear q0 q1 q2 q3 q4 q5 q6 q7 q8
      have HB := Lib.hid (hB3.trans (hb4.mono hs3))
      clear hb4 hB3 hB2
      go_wp2
      go_ret
      exact ⟨by rw [HE.out]; rfl, HB.out⟩
    · have HT := Lib.hid (fun W hW => tableOf_no ys h2 u W hW)
      have HNO : Hid (sameM xs ys = false) := by
        have : mvalid ys = false := by simpa [mvalid] using h2
        show _ = _
        rw [sameM, this, Bool.and_false, Bool.false_and]
      clear h1 h2 hx hy
      go_enter Tryd.func35, Tryd.ntmps35
      go_wp2_with fail
      refine HX.out.mono ?_
      rintro e w1 ⟨rfl, hb1⟩
      have hs1 := hb1.size
      have hy1 := HY.out _ (hb1.alloc hs1 (.cells (tabA (tabOf xs)) 63))
      go_wp2_with fail
      refine (HT.out _ hy1).mono ?_
      rintro e w2 ⟨rfl, hb2⟩
      have hB2 := (hb1.alloc hs1 (.cells (tabA (tabOf xs)) 63)).trans (hb2.mono (by simp [World.size_alloc]; omega))
      have hs2 := hB2.size
      clear hb2 hy1
      go_wp2
      go_ret
      exact ⟨by rw [HNO.out]; rfl, by (repeat' (first | (with_reducible exact Below.refl _ _) | (with_reducible assumption) | (with_reducible refine Below.alloc ?_ ?_ _) | (with_reducible refine Below.drew ?_) | (with_reducible refine Below.setCell ?_ ?_ _) | (with_reducible exact Nat.le_refl _) | omega | ((repeat (first | rewrite [World.size_alloc] | rewrite [World.size_setCell] | rewrite [World.size_drew])); omega) | (simp; omega) | (simp; done)))⟩
  · have HNO : Hid (sameM xs ys = false) := by
      have : mvalid xs = false := by simpa [mvalid] using h1
      show _ = _
      rw [sameM, this, Bool.false_and, Bool.false_and]
    have HX := Lib.hid (tableOf_no xs h1 v w hx)
    by_cases h2 : MV ys
    all_goals
      first | (have HT := Lib.hid (fun W hW => tableOf_yes ys h2 u W hW)) | (have HT := Lib.hid (fun W hW => tableOf_no ys h2 u W hW))
      clear h1 h2 hx hy
      go_enter Tryd.func35, Tryd.ntmps35
      go_wp2_with fail
      refine HX.out.mono ?_
      rintro e w1 ⟨rfl, hb1⟩
      have hs1 := hb1.size
      have hy1 := HY.out _ (hb1.alloc hs1 (.cells (tabA (fun _ => emp)) 63))
      go_wp2_with fail
      refine (HT.out _ hy1).mono ?_
      rintro e w2 ⟨rfl, hb2⟩
      have hB2 := (hb1.alloc hs1 (.cells (tabA (fun _ => emp)) 63)).trans (hb2.mono (by simp [World.size_alloc]; omega))
      have hs2 := hB2.size
      clear hb2 hy1
      go_wp2
      go_ret
      exact ⟨by rw [HNO.out]; rfl, by (repeat' (first | (with_reducible exact Below.refl _ _) | (with_reducible assumption) | (with_reducible refine Below.alloc ?_ ?_ _) | (with_reducible refine Below.drew ?_) | (with_reducible refine Below.setCell ?_ ?_ _) | (with_reducible exact Nat.le_refl _) | omega | ((repeat (first | rewrite [World.size_alloc] | rewrite [World.size_setCell] | rewrite [World.size_drew])); omega) | (simp; omega) | (simp; done)))⟩
end Go.Proofs.YtcpibkffeenehaaDoor
