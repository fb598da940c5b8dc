import Derived.Test.YthgcoocgeekdnaaDoorJxD
import Derived.Test.YthgcoocgeekdnaaDoorRows
import Derived.Test.YthgcoocgeekdnaaDoorLib
import Derived.ProofKit
import Derived.OpenShut
import Derived.ShutString
import Derived.ChangeOld
import Derived.Deep.Slices
import Derived.ChangeSame
import Derived.Carry
import Derived.Test.YthgcoocgeekdnaaDoorReaders
import Derived.Test.YthgcoocgeekdnaaDoorHar
import Derived.Test.YthgcoocgeekdnaaDoorJxA
import Derived.Test.YthgcoocgeekdnaaDoorAhd
import Derived.Test.YthgcoocgeekdnaaDoorRow
import Derived.Test.YthgcoocgeekdnaaDoorIm2
import Derived.Test.YthgcoocgeekdnaaDoorHold
import Derived.Test.YthgcoocgeekdnaaDoorSp1
import Derived.Test.YthgcoocgeekdnaaDoorJxC
import Derived.Test.YthgcoocgeekdnaaDoorTouch
import Derived.Test.YthgcoocgeekdnaaDoorJxB
import Derived.Maps.Own
import Derived.Maps.OwnOps
import Derived.Maps.OwnSet
import Derived.Maps.AppendAt
namespace Go.Proofs.YthgcoocgeekdnaaDoor
open Go.RowKit Go.PM

end Go.Proofs.YthgcoocgeekdnaaDoor
namespace Go.Proofs.YthgcoocgeekdnaaDoor
open Go.RowKit Go.PM Go.ChangeShapes Go.WideShapes Go.Deep

theorem own : ownKnob Tryd.prog.godebug = none := by kernel_rfl
theorem laidOut : laidOutB Tryd.prog = true := by kernel_rfl

theorem exists_list {α : Type} (Q : Nat → α → Prop) : ∀ n, (∀ i, i < n → ∃ m, Q i m) → ∃ xs : List α, xs.length = n ∧ ∀ i (h : i < xs.length), Q i xs[i]
  | 0, _ => ⟨[], rfl, fun i h => absurd h (Nat.not_lt_zero _)⟩
  | n + 1, h => by
    obtain ⟨xs, hl, hx⟩ := exists_list Q n fun i hi => h i (by omega)
    obtain ⟨m, hm⟩ := h n (by omega)
    refine ⟨xs ++ [m], by simp [hl], fun i hi => ?_⟩
    by_cases h1 : i < xs.length
    · rw [List.getElem_append_left h1]; exact hx i h1
    · have h2 : i = xs.length := by simp at hi; omega
      subst h2
      rw [List.getElem_append_right (Nat.le_refl _)]
      simpa [hl] using hm

theorem rdM_mk {w : World} {ad : Addr} {cap : Nat} (xs : List Mv) (hc : xs.length ≤ cap) (hn : xs.length ≤ 9223372036854775807)
    (h : ∀ i (hi : i < xs.length), w.cell? (ad.add (i * 2)) = some (.string xs[i].1) ∧ w.cell? ((ad.add (i * 2)).add 1) = some (.string xs[i].2)) : RdM w (.slice (some ad) xs.length cap) xs := by
  refine ⟨some ad, cap, rfl, hc, hn, mcells_length xs, fun h0 => ?_⟩
  have h1 := (h 0 h0).1
  obtain ⟨b, off, spot⟩ := ad
  have hs : spot = none := by
    have := World.cell?_spot h1
    simpa [Addr.add] using this
  subst hs
  have hadd : ∀ o i, (Addr.mk b o none).add i = ⟨b, o + i, none⟩ := fun o i => by
    unfold Addr.add; split
    · next h => subst h; rfl
    · rfl
  refine ⟨b, off, rfl, ?_, fun j u hu => ?_⟩
  · rcases Nat.lt_or_ge b w.heap.size with hlt | hge
    · exact hlt
    · rw [hadd] at h1
      simp [World.cell?, Array.getElem?_eq_none hge] at h1
  · have hj : j < xs.length * 2 := by rw [← mcells_length]; exact (List.getElem?_eq_some_iff.1 hu).1
    have hk : j / 2 < xs.length := by omega
    have hm := mcells_at xs (j / 2) _ (List.getElem?_eq_getElem hk)
    have hh := h (j / 2) hk
    rw [hadd, hadd] at hh
    rcases Nat.mod_two_eq_zero_or_one j with h0 | h0
    · have e : j / 2 * 2 = j := by omega
      rw [e] at hm hh
      rw [hm.1] at hu
      rw [hh.1, hu]
    · have e : j / 2 * 2 + 1 = j := by omega
      rw [e] at hm
      rw [Nat.add_assoc, e] at hh
      rw [hm.2] at hu
      rw [hh.2, hu]

end Go.Proofs.YthgcoocgeekdnaaDoor
namespace Go.Proofs.YthgcoocgeekdnaaDoor
open Go.RowKit Go.PM
open Go.ChangeShapes Go.WideShapes Go.Deep in
set_option maxRecDepth 100000 in
theorem open_bytes {H : Type} {enc : TypeId × Value → H} {W : World} {base fuel : Nat} {spare : Nat → Bool} {held : Bool} {a : Option Addr} {n c : Nat} {x : DataW H × List MemPlace}
    (h : DataW.trod enc Tryd.prog W base spare held fuel 22 [.slice a n c] = some x) : RdB W W.heap.size (.slice a n c) n := by
  rcases open_slice Tryd.underlying22 h with ⟨hcs, _⟩ | ⟨ad, len, cap, m, k, D, Pl, hcs, hb, hl, hm, hmm, hx, hi⟩
  · simp at hcs
    obtain ⟨rfl, rfl, rfl⟩ := hcs
    exact ⟨none, 0, rfl, by omega, by omega, fun k hk => absurd hk (Nat.not_lt_zero k)⟩
  · simp at hcs
    obtain ⟨rfl, rfl, rfl⟩ := hcs
    have hC : Tryd.prog.cellsOf 5 = 1 := by kernel_rfl
    have hml : n ≤ m := by rw [hmm]; split <;> omega
    have hM : maxLen = 9223372036854775807 := rfl
    have hcell : ∀ i, i < n → ∃ kk, W.cell? (ad.add i) = some (.int .u8 kk) ∧ 0 ≤ kk ∧ kk ≤ 255 := fun i hin => by
      obtain ⟨cs', hc', ht⟩ := hi i (by omega)
      rw [hC] at hc'
      obtain ⟨kk, hk, _, hwf⟩ := DataW.trod_int Tryd.underlying5 ht
      subst hk
      obtain ⟨_, hcl, hat⟩ := World.cells?_some hc'
      have h1 := hat 0 (by omega)
      refine ⟨kk, by simpa [Addr.add] using h1, ?_⟩
      simpa [Lit.wf, IntKind.min, IntKind.max, IntKind.signed, IntKind.bits] using hwf
    clear hi hx h
    refine ⟨some ad, c, rfl, by omega, by omega, fun i hin => ?_⟩
    obtain ⟨b, off, spot⟩ := ad
    have hs : spot = none := by
      obtain ⟨_, h0, _⟩ := hcell 0 (by omega)
      have := World.cell?_spot h0
      simpa [Addr.add] using this
    subst hs
    obtain ⟨kk, h1, hw1, hw2⟩ := hcell i hin
    have hadd : (Addr.mk b off none).add i = ⟨b, off + i, none⟩ := by
      unfold Addr.add; split
      · next h => subst h; rfl
      · rfl
    rw [hadd] at h1
    have hb : b < W.heap.size := by
      rcases Nat.lt_or_ge b W.heap.size with hlt | hge
      · exact hlt
      · simp [World.cell?, Array.getElem?_eq_none hge] at h1
    exact ⟨b, off, kk, rfl, hb, hb, h1, hw1, by omega⟩
end Go.Proofs.YthgcoocgeekdnaaDoor
namespace Go.PM
open Go.RowKit
/-- one of a text's letters is the given text -/
def pmH (s c : ByteArray) : Bool := (List.range s.size).any fun i => decide (s.extract i (i + 1) = c)
def pmK (s c : ByteArray) (k : Nat) : Bool := (List.range k).any fun i => decide (s.extract i (i + 1) = c)
theorem pmK_succ (s c : ByteArray) (k : Nat) : pmK s c (k + 1) = (pmK s c k || decide (s.extract k (k + 1) = c)) := by
  simp [pmK, List.range_succ]
theorem pmK_yes {s c : ByteArray} (k : Nat) (hk : k < s.size) (h : s.extract k (k + 1) = c) : pmH s c = true := by
  rw [pmH, List.any_eq_true]
  exact ⟨k, by simpa using hk, decide_eq_true h⟩
theorem extract_at (s : ByteArray) (i : Nat) (h : i < s.size) : s.extract i (i + 1) = ⟨#[s[i]]⟩ := by
  apply ByteArray.ext
  apply Array.ext
  · simp only [ByteArray.data_extract, Array.size_extract]
    have : s.data.size = s.size := rfl
    simp; omega
  · intro j h1 h2
    have hj : j = 0 := by simpa using h2
    subst hj
    simp
    rfl
theorem pmH_one (s : ByteArray) (c : UInt8) : pmH s ⟨#[c]⟩ = decide (c ∈ s.data.toList) := by
  rw [pmH, Bool.eq_iff_iff, List.any_eq_true, decide_eq_true_eq]
  constructor
  · rintro ⟨i, hi, h⟩
    have hi' : i < s.size := by simpa using hi
    have h' := of_decide_eq_true h
    rw [extract_at s i hi'] at h'
    have : s[i] = c := by simpa using h'
    rw [← this]
    exact List.getElem_mem (l := s.data.toList) (n := i) (by simpa using hi')
  · intro h
    obtain ⟨i, hi, e⟩ := List.getElem_of_mem h
    have hi' : i < s.size := by simpa using hi
    refine ⟨i, by simpa using hi', decide_eq_true ?_⟩
    rw [extract_at s i hi', ← e]
    rfl
theorem place_inj : ∀ p < 9, ∀ q < 9, placesL.getD q 0 = placesL.getD p 0 → q = p := by decide +kernel
theorem nm_byte (p : Nat) (hp : p < 9) : nm p = ⟨#[placesL.getD p 0]⟩ := by
  match p, hp with
  | 0, _ | 1, _ | 2, _ | 3, _ | 4, _ | 5, _ | 6, _ | 7, _ | 8, _ => decide +kernel
theorem pmH_names (h : Nat → Bool) (p : Nat) (hp : p < 9) : pmH (namesW h) (nm p) = h p := by
  rw [nm_byte p hp, pmH_one, Bool.eq_iff_iff, decide_eq_true_eq]
  unfold namesW namesL
  simp only [List.mem_map, List.mem_filter, List.mem_range]
  constructor
  · rintro ⟨q, ⟨hq, hh⟩, e⟩
    rw [place_inj p hp q hq e] at hh; exact hh
  · intro hh; exact ⟨p, ⟨hp, hh⟩, rfl⟩
theorem srcM_isS {xs : List Mv} (h : MV xs) {a : ByteArray} (ha : isP a = true) : isS (srcM xs a) = true := by
  unfold srcM
  cases hf : xs.find? (fun m => decide (m.1 = a)) with
  | none => show isS a = true; unfold isS; rw [ha]; rfl
  | some m =>
    have hm := h.1 m (List.mem_of_find?_eq_some hf)
    unfold mok at hm; rw [Bool.and_eq_true] at hm
    exact hm.2
theorem nm_of_isP {a : ByteArray} (h : isP a = true) : ∃ p, p < 9 ∧ a = nm p := by
  obtain ⟨c, rfl⟩ := one_of_size (isP_size h)
  have h2 : c ∈ placesL := by simpa [isP] using h
  simp only [placesL, List.mem_cons, List.not_mem_nil, or_false] at h2
  rcases h2 with rfl | rfl | rfl | rfl | rfl | rfl | rfl | rfl | rfl
  · exact ⟨0, by decide, by decide +kernel⟩
  · exact ⟨1, by decide, by decide +kernel⟩
  · exact ⟨2, by decide, by decide +kernel⟩
  · exact ⟨3, by decide, by decide +kernel⟩
  · exact ⟨4, by decide, by decide +kernel⟩
  · exact ⟨5, by decide, by decide +kernel⟩
  · exact ⟨6, by decide, by decide +kernel⟩
  · exact ⟨7, by decide, by decide +kernel⟩
  · exact ⟨8, by decide, by decide +kernel⟩
end Go.PM
namespace Go.Proofs.YthgcoocgeekdnaaDoor
open Go.RowKit Go.PM
theorem pmH_rdrs {xs : List Mv} (h : MV xs) (a : ByteArray) (p : Nat) (hp : p < 9) : pmH (rdrs xs a) (nm p) = (decide (nm p ≠ a) && decide (srcM xs (nm p) = a)) := by
  rw [rdrs, ← rsH_rdH h, pmH_names _ p hp]; rfl
theorem pmH_source {xs : List Mv} (h : MV xs) {a : ByteArray} (ha : isP a = true) (hne : ¬ srcM xs a = a) : pmH (rdrs xs (srcM xs a)) a = true := by
  obtain ⟨p, hp, rfl⟩ := nm_of_isP ha
  rw [pmH_rdrs h _ p hp]
  have h1 : nm p ≠ srcM xs (nm p) := fun e => hne e.symm
  simp [h1]
theorem rdrs_size (xs : List Mv) (a : ByteArray) : (rdrs xs a).size ≤ 9 := namesL_size _ 9

end Go.Proofs.YthgcoocgeekdnaaDoor
namespace Go.PM
open Go.RowKit
theorem place_of {a : ByteArray} (h : isP a = true) : ∃ p, p < 9 ∧ a = nm p := ⟨pidx a, (pidx_spec h).1, (pidx_spec h).2.symm⟩
def pmI (s : ByteArray) : Int := if isP s then (pidx s : Int) else -1
theorem pmI_yes {p : Nat} (hp : p < 9) {s : ByteArray} (h : nm p = s) : pmI s = p := by
  subst h
  rw [pmI, if_pos (isP_nm hp), pidx_nm hp]
theorem pmI_no {s : ByteArray} (h : ∀ p, p < 9 → ¬ nm p = s) : pmI s = -1 := by
  refine if_neg fun hp => ?_
  obtain ⟨p, hp9, e⟩ := place_of hp
  exact h p hp9 e.symm
end Go.PM
namespace Go.Proofs.YthgcoocgeekdnaaDoor
open Go.RowKit Go.PM
end Go.Proofs.YthgcoocgeekdnaaDoor
namespace Go.PW
open Go.PM Go.RowKit Go.Lib
variable {f : Nat → ByteArray} {s : Nat}
theorem wb_some (hf : SV f) (hs : s < 19) {i : Nat} (hi : i + 1 < (way (nxT f) s).length) : (way (nxT f) s)[i] < 9 ∧ sx f (way (nxT f) s)[i] = (way (nxT f) s)[i + 1] := by
  have hr := way_rho (nice hf) hs
  obtain ⟨a, t, e1, e2, e3⟩ := hr.step (j := i) hi
  rw [hr.some_ (j := i) (by omega)] at e1
  rw [hr.some_ (j := i + 1) hi] at e3
  obtain rfl := Option.some.inj e1
  obtain rfl := Option.some.inj e3
  have h9 := (nice hf).low _ _ e2
  refine ⟨h9, ?_⟩
  by_cases e : sx f (way (nxT f) s)[i] = (way (nxT f) s)[i]
  · rw [nxT_stay h9 e] at e2; cases e2
  · rw [nxT_some h9 e] at e2; exact Option.some.inj e2
theorem wb_zero (hf : SV f) (hs : s < 19) (h0 : 0 < (way (nxT f) s).length) : (way (nxT f) s)[0] = s := by
  have hr := way_rho (nice hf) hs
  have := hr.some_ h0
  exact (Option.some.inj this).symm
theorem wb_wheel (hf : SV f) (hs : s < 9) : ∀ i (hi : i < (way (nxT f) s).length), (way (nxT f) s)[i] < 9 → (way (nxT f) s)[i] ∈ wheelL f s := by
  intro i
  induction i with
  | zero => intro hi h9; rw [wb_zero hf (by omega) hi]; exact wheelL_self hs
  | succ i ih =>
    intro hi h9
    have h1 := wb_some hf (show s < 19 by omega) hi
    have h2 := ih (by omega) h1.1
    refine wheelL_mem.2 ⟨h9, ?_⟩
    rw [← (wheelL_mem.1 h2).2, ← h1.2]
    exact (hd_edge (f := f) 9 _ h1.1 (by rw [h1.2]; exact h9)).symm
theorem wb_fresh (hf : SV f) (hs : s < 19) {i : Nat} (hi : i < (way (nxT f) s).length) : (way (nxT f) s)[i] ∉ (way (nxT f) s).take i := by
  intro hm
  have hr := way_rho (nice hf) hs
  obtain ⟨j, hj⟩ := List.getElem?_of_mem hm
  have hjl := (List.getElem?_eq_some_iff.1 hj).1
  rw [List.length_take] at hjl
  have h2 : (way (nxT f) s)[j]? = some (way (nxT f) s)[i] := by
    rw [List.getElem?_take] at hj
    rw [if_pos (by omega)] at hj
    exact hj
  obtain ⟨h3, h4⟩ := List.getElem?_eq_some_iff.1 h2
  have := (List.getElem_inj hr.nodup).1 h4
  omega
theorem wb_last (hf : SV f) (hs : s < 19) {i : Nat} (hl : (way (nxT f) s)[(way (nxT f) s).length - 1]? = some i) (hi : i < 9) : sx f i ∈ way (nxT f) s := by
  have hr := way_rho (nice hf) hs
  have hp := hr.pos
  have h1 : orb (nxT f) s ((way (nxT f) s).length - 1) = some i := by rw [← hr.at_ _ (by omega)]; exact hl
  have h2 : orb (nxT f) s (way (nxT f) s).length = nxT f i := by
    have : orb (nxT f) s ((way (nxT f) s).length - 1 + 1) = (orb (nxT f) s ((way (nxT f) s).length - 1)).bind (nxT f) := rfl
    rw [show (way (nxT f) s).length - 1 + 1 = (way (nxT f) s).length by omega, h1] at this
    exact this
  by_cases e : sx f i = i
  · rw [e]; exact List.mem_of_getElem? hl
  · rw [nxT_some hi e] at h2
    rcases hr.last with h3 | ⟨mu, hmu, h3⟩
    · rw [h2] at h3; cases h3
    · rw [h2, hr.some_ hmu] at h3
      rw [Option.some.inj h3]
      exact List.getElem_mem hmu
theorem wb_depth (hf : SV f) (hs : s < 19) : depN (nxT f) s < (way (nxT f) s).length := by
  have hr := way_rho (nice hf) hs
  obtain ⟨D, hD, hc⟩ := hr.stops
  have := (depN_stops (nice hf) hs).unique hD
  rcases hc with ⟨_, h⟩ | ⟨h, _⟩ <;> omega
theorem pmH_txt {l : List Nat} (hl : ∀ a ∈ l, a < 19) {i : Nat} (hi : i < 19) : pmH (txt l) (sn i) = decide (i ∈ l) := by
  show pmH (txt l) ⟨#[ch i]⟩ = _
  rw [pmH_one, decide_eq_decide]
  exact txt_mem hl hi
theorem pmI_sn {i : Nat} (hi : i < 19) : pmI (sn i) = if i < 9 then (i : Int) else -1 := by
  unfold pmI
  rw [(ch_all i hi).2.2.1]
  by_cases h : i < 9
  · rw [if_pos (by simpa using h), if_pos h, sn_nm i h, pidx_nm h]
  · rw [if_neg (by simpa using h), if_neg h]
theorem txt_extract (l : List Nat) (j : Nat) (hj : j < l.length) : (txt l).extract j (j + 1) = sn l[j] := by
  have hz := txt_size l
  rw [extract_one _ _ (by omega), txt_list, List.getD_eq_getElem?_getD, List.getElem?_map, List.getElem?_eq_getElem hj]; rfl
theorem txt_take (l : List Nat) (j : Nat) : (txt l).extract 0 j = txt (l.take j) := by
  apply ByteArray.ext
  rw [ByteArray.data_extract]
  apply Array.ext'
  simp [txt, List.extract_eq_take_drop, List.map_take]
end Go.PW
namespace Go.Proofs.YthgcoocgeekdnaaDoor
open Go.RowKit Go.PM Go.PW
theorem wb_all {xs : List Mv} (h : MV xs) {a : ByteArray} (ha : isP a = true) : ∃ (wy wh : List Nat) (s0 D : Nat), s0 < 9 ∧ a = sn s0 ∧ wayB xs a = txt wy ∧ whB xs a = txt wh ∧ depthI xs a = (D : Int) ∧ wy.length ≤ 19 ∧ 0 < wy.length ∧ (∀ x ∈ wy, x < 19) ∧
    (∀ i (hi : i + 1 < wy.length), wy[i] < 9 ∧ sx (tabOf xs) wy[i] = wy[i + 1]) ∧ (∀ i (hi : i < wy.length), wy[i] < 9 → wy[i] ∈ wh) ∧ (∀ i (hi : i < wy.length), wy[i] ∉ wy.take i) ∧
    (∀ i, wy[wy.length - 1]? = some i → i < 9 → sx (tabOf xs) i ∈ wy) ∧ (∀ hi : 0 < wy.length, wy[0] = s0) ∧ D < wy.length ∧ (∀ x ∈ wh, x < 19) ∧ wh.length ≤ 9 := by
  have hf := SV_tab h
  have hs9 := (pidx_spec ha).1
  have hs : pidx a < 19 := by omega
  have hm : mvalid xs = true := by simpa [mvalid] using h
  have hr := way_rho (nice hf) hs
  refine ⟨way (nxT (tabOf xs)) (pidx a), wheelL (tabOf xs) (pidx a), pidx a, depN (nxT (tabOf xs)) (pidx a), hs9, isP_sn ha, rfl, rfl, ?_, hr.len, hr.pos, hr.lt, fun i hi => wb_some hf hs hi, wb_wheel hf hs9, fun i hi => wb_fresh hf hs hi, fun i hl hi => wb_last hf hs hl hi, fun hi => wb_zero hf hs hi, wb_depth hf hs, fun x hx => by have := wheelL_lt x hx; omega, wheelL_len _⟩
  unfold depthI
  rw [hm, ha]; rfl
end Go.Proofs.YthgcoocgeekdnaaDoor
namespace Go.PW
open Go.PM Go.RowKit
variable {nx : Nat → Option Nat}
theorem ringsF_in (hn : Nice nx) {q : Nat} (hq : q < 9) (hr : onRb nx q = true) : ∀ k, q < k → q ∈ (ringsF nx k).flatten := by
  intro k
  induction k with
  | zero => intro h; omega
  | succ k ih =>
    intro h
    by_cases hc : onRb nx k = true ∧ k ∉ (ringsF nx k).flatten
    · rw [ringsF_yes hc.1 hc.2, List.flatten_append, List.mem_append]
      rcases Nat.lt_or_ge q k with h1 | h1
      · exact .inl (ih h1)
      · right
        have : q = k := by omega
        subst this
        obtain ⟨l, hl⟩ := way_first nx q hn (by omega)
        simp [hl]
    · rw [ringsF_no hc]
      rcases Nat.lt_or_ge q k with h1 | h1
      · exact ih h1
      · have : q = k := by omega
        subst this
        exact Classical.not_not.1 fun hm => hc ⟨hr, hm⟩
theorem ringsF_mem2 : ∀ k, ∀ l ∈ ringsF nx k, ∃ s, s < k ∧ l = way nx s ∧ onRb nx s = true ∧ s ∉ (ringsF nx s).flatten := by
  intro k
  induction k with
  | zero => intro l h; simp [ringsF] at h
  | succ k ih =>
    intro l h
    by_cases hc : onRb nx k = true ∧ k ∉ (ringsF nx k).flatten
    · rw [ringsF_yes hc.1 hc.2, List.mem_append] at h
      rcases h with h | h
      · obtain ⟨s, h1, h2⟩ := ih l h; exact ⟨s, by omega, h2⟩
      · simp at h; exact ⟨k, by omega, h, hc⟩
    · rw [ringsF_no hc] at h
      obtain ⟨s, h1, h2⟩ := ih l h; exact ⟨s, by omega, h2⟩
theorem ring_next (hn : Nice nx) {s : Nat} (hs : s < 19) (hr : onRb nx s = true) {x y : Nat} (hx : x ∈ way nx s) (h : nx x = some y) : y ∈ way nx s := by
  have ho := way_rho hn hs
  have e := ho.onR.1 ((onRb_iff hn hs).1 hr)
  obtain ⟨j, hj⟩ := List.getElem?_of_mem hx
  have hjl := (List.getElem?_eq_some_iff.1 hj).1
  rw [ho.at_ j hjl] at hj
  have h2 : orb nx s (j + 1) = some y := by simp only [orb, hj, Option.bind_some]; exact h
  by_cases hl : j + 1 < (way nx s).length
  · rw [ho.some_ hl] at h2
    rw [← Option.some.inj h2]; exact List.getElem_mem hl
  · rw [show j + 1 = (way nx s).length by omega, e] at h2
    obtain rfl := Option.some.inj h2
    exact List.mem_of_getElem? (ho.at_ 0 ho.pos)
theorem ring_orb (hn : Nice nx) {s : Nat} (hs : s < 19) (hr : onRb nx s = true) {x : Nat} (hx : x ∈ way nx s) : ∀ k y, orb nx x k = some y → y ∈ way nx s := by
  intro k
  induction k with
  | zero => intro y h; simp only [orb, Option.some.injEq] at h; rw [← h]; exact hx
  | succ k ih =>
    intro y h
    simp only [orb, Option.bind_eq_some_iff] at h
    obtain ⟨z, h1, h2⟩ := h
    exact ring_next hn hs hr (ih z h1) h2
theorem ring_back (hn : Nice nx) {s : Nat} (hs : s < 19) (hr : onRb nx s = true) {x : Nat} (hx : x ∈ way nx s) : ∃ k, orb nx x k = some s := by
  have ho := way_rho hn hs
  have e := ho.onR.1 ((onRb_iff hn hs).1 hr)
  obtain ⟨j, hj⟩ := List.getElem?_of_mem hx
  have hjl := (List.getElem?_eq_some_iff.1 hj).1
  rw [ho.at_ j hjl] at hj
  refine ⟨(way nx s).length - j, ?_⟩
  have := orb_add (nx := nx) s j ((way nx s).length - j)
  rw [show j + ((way nx s).length - j) = (way nx s).length by omega, e, hj] at this
  exact this.symm
/-- the first place of a ring is its least -/
theorem ring_min (hn : Nice nx) {s : Nat} (hs : s < 9) (hr : onRb nx s = true) (hf : s ∉ (ringsF nx s).flatten) : ∀ q ∈ way nx s, s ≤ q := by
  intro q hq
  rcases Nat.lt_or_ge q s with hlt | hge
  · exfalso
    have hoq := ring_all hn (by omega) ((onRb_iff hn (by omega)).1 hr) q hq
    have hrq := (onRb_iff hn (show q < 19 by omega)).2 hoq
    have h1 := ringsF_in hn (by omega) hrq s hlt
    obtain ⟨l, hl, hql⟩ := List.mem_flatten.1 h1
    obtain ⟨s', hs', rfl, hr', _⟩ := ringsF_mem2 s l hl
    obtain ⟨k, hk⟩ := ring_back hn (show s < 19 by omega) hr hq
    have := ring_orb hn (show s' < 19 by omega) hr' hql k s hk
    exact hf (List.mem_flatten.2 ⟨_, hl, this⟩)
  · exact hge
theorem ringsF_sorted (hn : Nice nx) : ∀ k, k ≤ 9 → (ringsF nx k).Pairwise (fun a b => ∀ x y, a.head? = some x → b.head? = some y → x < y) := by
  intro k
  induction k with
  | zero => intro _; simp [ringsF]
  | succ k ih =>
    intro hk
    by_cases hc : onRb nx k = true ∧ k ∉ (ringsF nx k).flatten
    · rw [ringsF_yes hc.1 hc.2, List.pairwise_append]
      refine ⟨ih (by omega), by simp, fun a ha b hb x y hx hy => ?_⟩
      simp at hb
      subst hb
      obtain ⟨l, hl⟩ := way_first nx k hn (by omega)
      rw [hl] at hy
      simp at hy
      obtain ⟨s, hs, rfl, _⟩ := ringsF_mem2 k a ha
      obtain ⟨l2, hl2⟩ := way_first nx s hn (by omega)
      rw [hl2] at hx
      simp at hx
      omega
    · rw [ringsF_no hc]; exact ih (by omega)
theorem filter_at {α : Type _} (p : α → Bool) : ∀ (l : List α) (n : Nat) (h : n < l.length), p l[n] = true → (l.filter p)[((l.take n).filter p).length]? = some l[n]
  | [], n, h, _ => by simp at h
  | a :: l, 0, _, hp => by
    have hp : p a = true := hp
    simp [hp]
  | a :: l, n + 1, h, hp => by
    have h' : n < l.length := by simpa using h
    have hp : p l[n] = true := hp
    have ih := filter_at p l n h' hp
    by_cases ha : p a = true
    · simp [ha]; exact ih
    · simp [ha]; exact ih
/-- what there is to say of a ring -/
structure RingR (f : Nat → ByteArray) (r : List Nat) : Prop where
  two : 2 ≤ r.length
  le : r.length ≤ 19
  low : ∀ i (h : i < r.length), r[i] < 9
  next : ∀ i (h : i < r.length), sx f r[i] = r[(i + 1) % r.length]'(Nat.mod_lt _ (by omega))
  dep : ∀ i (h : i < r.length), depN (nxT f) r[i] = 0
  min : ∀ i (h : i < r.length), r[0]'(by omega) ≤ r[i]
theorem ringR (f : Nat → ByteArray) (hf : SV f) {r : List Nat} (h : r ∈ ringsF (nxT f) 9) : RingR f r := by
  obtain ⟨s, hs, rfl, hr, hfr⟩ := ringsF_mem2 9 r h
  have hn := nice hf
  have hs19 : s < 19 := by omega
  have ho := way_rho hn hs19
  obtain ⟨i0, h1, h2, h3⟩ := ring_last hf hs19
  obtain ⟨h4, h5, h6⟩ := h3.1 hr
  have hall := ring_all hn hs19 ((onRb_iff hn hs19).1 hr)
  have h0 := wb_zero hf hs19 ho.pos
  refine ⟨h4, ho.len, fun i hi => ring_low hn (hall _ (List.getElem_mem hi)), fun i hi => ?_, fun i hi => ?_, fun i hi => ?_⟩
  · by_cases hl : i + 1 < (way (nxT f) s).length
    · rw [(wb_some hf hs19 hl).2]
      congr 1
      exact (Nat.mod_eq_of_lt hl).symm
    · have he : i + 1 = (way (nxT f) s).length := by omega
      have h7 : (way (nxT f) s)[i] = i0 := by
        rw [show (way (nxT f) s).length - 1 = i by omega, List.getElem?_eq_getElem hi] at h1
        exact Option.some.inj h1
      rw [h7, h6]
      have h8 : (i + 1) % (way (nxT f) s).length = 0 := by rw [he, Nat.mod_self]
      simp only [h8]
      exact h0.symm
  · have h7 := hall _ (List.getElem_mem hi)
    have hx := ho.lt _ (List.getElem_mem hi)
    refine (depN_stops hn hx).unique ⟨by omega, fun j hj => by omega, _, rfl, .inr h7⟩
  · rw [h0]; exact ring_min hn hs hr hfr _ (List.getElem_mem hi)
end Go.PW
namespace Go.PM
open Go.RowKit
/-- an array of nine numbers -/
def cntC (f : Nat → Nat) : Array Value := #[.int .i64 (f 0 : Nat), .int .i64 (f 1 : Nat), .int .i64 (f 2 : Nat), .int .i64 (f 3 : Nat), .int .i64 (f 4 : Nat), .int .i64 (f 5 : Nat), .int .i64 (f 6 : Nat), .int .i64 (f 7 : Nat), .int .i64 (f 8 : Nat)]
theorem cntC_at (f : Nat → Nat) (p : Nat) (hp : p < 9) : (cntC f)[p]? = some (.int .i64 (f p : Nat)) := by
  match p, hp with
  | 0, _ | 1, _ | 2, _ | 3, _ | 4, _ | 5, _ | 6, _ | 7, _ | 8, _ => rfl
theorem cntC_set (f : Nat → Nat) (p : Nat) (hp : p < 9) (n : Nat) : (cntC f).setIfInBounds p (.int .i64 (n : Nat)) = cntC (fun q => if q = p then n else f q) := by
  match p, hp with
  | 0, _ | 1, _ | 2, _ | 3, _ | 4, _ | 5, _ | 6, _ | 7, _ | 8, _ => simp [cntC]
theorem cntC_congr {f g : Nat → Nat} (h : ∀ p, p < 9 → f p = g p) : cntC f = cntC g := by
  unfold cntC
  rw [h 0 (by omega), h 1 (by omega), h 2 (by omega), h 3 (by omega), h 4 (by omega), h 5 (by omega), h 6 (by omega), h 7 (by omega), h 8 (by omega)]
theorem cntC_one (f : Nat → Nat) : (cntC f).all (·.oneCell') = true := by simp [cntC, Value.oneCell']
/-- how many of the moves read each place -/
def cntF (xs : List Mv) (p : Nat) : Nat := rdN xs (nm p)
theorem rdN_snoc (xs : List Mv) (x : Mv) (a : ByteArray) : rdN (xs ++ [x]) a = rdN xs a + if x.2 = a then 1 else 0 := by
  unfold rdN
  rw [List.map_append, List.count_append, List.map_cons, List.map_nil, List.count_cons]
  simp
theorem rdN_le (xs : List Mv) (a : ByteArray) : rdN xs a ≤ xs.length := by
  unfold rdN
  have := List.count_le_length (a := a) (l := xs.map (·.2))
  simpa using this
theorem cntF_yes (xs : List Mv) (x : Mv) (h : isP x.2 = true) : cntC (fun q => if q = pidx x.2 then cntF xs (pidx x.2) + 1 else cntF xs q) = cntC (cntF (xs ++ [x])) := by
  refine cntC_congr fun p hp => ?_
  have hx := pidx_spec h
  unfold cntF
  rw [rdN_snoc]
  by_cases e : p = pidx x.2
  · subst e
    rw [if_pos rfl, if_pos hx.2.symm]
  · rw [if_neg e, if_neg (fun e2 => e (by rw [e2, pidx_nm hp]))]; rfl
theorem cntF_no (xs : List Mv) (x : Mv) (h : isP x.2 = false) : cntC (cntF xs) = cntC (cntF (xs ++ [x])) := by
  refine cntC_congr fun p hp => ?_
  unfold cntF
  rw [rdN_snoc, if_neg (fun e => by rw [e, isP_nm hp] at h; cases h)]; rfl
end Go.PM
namespace Go.Proofs.YthgcoocgeekdnaaDoor
open Go.RowKit Go.PM

/-- whether a move can be done ahead of those that are counted -/
def aheadP (xs : List Mv) (m : Mv) : Bool := decide (rdN xs m.1 = 0)
end Go.Proofs.YthgcoocgeekdnaaDoor
namespace Go.PM
open Go.RowKit
/-- a move that changes what a later one reads -/
def BadO (x m : Mv) : Prop := x.1 = m.2 ∧ x.2 ≠ m.2 ∧ isD m.2 = false
instance (x m : Mv) : Decidable (BadO x m) := inferInstanceAs (Decidable (_ ∧ _))
def GoodO (xs : List Mv) : Prop := xs.Pairwise fun x m => ¬ BadO x m
instance (xs : List Mv) : Decidable (GoodO xs) := inferInstanceAs (Decidable (List.Pairwise _ _))
def ordB (xs : List Mv) : Bool := mvalid xs && decide (GoodO xs)
theorem GoodO_step (xs : List Mv) (k : Nat) (hk : k < xs.length) : GoodO (xs.take (k + 1)) ↔ GoodO (xs.take k) ∧ ∀ x ∈ xs.take k, ¬ BadO x xs[k] := by
  unfold GoodO
  rw [take_snoc xs k hk, List.pairwise_append]
  simp
theorem GoodO_take {xs : List Mv} (h : GoodO xs) (k : Nat) : GoodO (xs.take k) := List.Pairwise.sublist (List.take_sublist _ _) h
theorem ordB_no {xs : List Mv} {k : Nat} (h : ¬ GoodO (xs.take k)) : ordB xs = false := by
  unfold ordB
  rw [decide_eq_false (fun hg => h (GoodO_take hg k)), Bool.and_false]
/-- which places the moves change -/
def chgF (xs : List Mv) (q : Nat) : Bool := xs.any fun x => decide (x.1 = nm q ∧ x.1 ≠ x.2)
def boolC (f : Nat → Bool) : Array Value := #[.bool (f 0), .bool (f 1), .bool (f 2), .bool (f 3), .bool (f 4), .bool (f 5), .bool (f 6), .bool (f 7), .bool (f 8)]
theorem boolC_at (f : Nat → Bool) (p : Nat) (hp : p < 9) : (boolC f)[p]? = some (.bool (f p)) := by
  match p, hp with
  | 0, _ | 1, _ | 2, _ | 3, _ | 4, _ | 5, _ | 6, _ | 7, _ | 8, _ => rfl
theorem boolC_set (f : Nat → Bool) (p : Nat) (hp : p < 9) (b : Bool) : (boolC f).setIfInBounds p (.bool b) = boolC (fun q => if q = p then b else f q) := by
  match p, hp with
  | 0, _ | 1, _ | 2, _ | 3, _ | 4, _ | 5, _ | 6, _ | 7, _ | 8, _ => simp [boolC]
theorem boolC_congr {f g : Nat → Bool} (h : ∀ p, p < 9 → f p = g p) : boolC f = boolC g := by
  unfold boolC
  rw [h 0 (by omega), h 1 (by omega), h 2 (by omega), h 3 (by omega), h 4 (by omega), h 5 (by omega), h 6 (by omega), h 7 (by omega), h 8 (by omega)]
theorem chgF_step {xs : List Mv} (h : MV xs) (k : Nat) (hk : k < xs.length) : boolC (fun q => if q = pidx xs[k].1 then decide (xs[k].1 ≠ xs[k].2) else chgF (xs.take k) q) = boolC (chgF (xs.take (k + 1))) := by
  have hm := h.1 _ (List.getElem_mem hk)
  unfold mok at hm; rw [Bool.and_eq_true] at hm
  have hp := pidx_spec hm.1
  have hkey := ((MV_step k hk).1 (MV_take h (k + 1))).2.2
  refine boolC_congr fun q hq => ?_
  unfold chgF
  rw [take_snoc xs k hk, List.any_append, List.any_cons, List.any_nil, Bool.or_false]
  by_cases e : q = pidx xs[k].1
  · subst e
    rw [if_pos rfl, hp.2]
    have h0 : (xs.take k).any (fun x => decide (x.1 = xs[k].1 ∧ x.1 ≠ x.2)) = false := by
      rw [List.any_eq_false]
      intro x hx e2
      rw [decide_eq_true_eq] at e2
      exact hkey (List.mem_map.2 ⟨x, hx, e2.1⟩)
    rw [h0, Bool.false_or, decide_eq_decide]
    exact ⟨fun h => ⟨rfl, h⟩, fun h => h.2⟩
  · rw [if_neg e]
    have : decide (xs[k].1 = nm q ∧ xs[k].1 ≠ xs[k].2) = false := by
      rw [decide_eq_false_iff_not]
      intro h2
      exact e (by rw [h2.1, pidx_nm hq])
    rw [this, Bool.or_false]
theorem chg_bad {xs : List Mv} (k : Nat) (hk : k < xs.length) (hp : isP xs[k].2 = true) (hc : chgF (xs.take k) (pidx xs[k].2) = true) : ¬ GoodO (xs.take (k + 1)) := by
  rw [GoodO_step xs k hk]
  rintro ⟨_, h⟩
  unfold chgF at hc
  rw [(pidx_spec hp).2, List.any_eq_true] at hc
  obtain ⟨x, hx, e⟩ := hc
  rw [decide_eq_true_eq] at e
  exact h x hx ⟨e.1, fun e2 => e.2 (e.1.trans e2.symm), (isP_cases hp).1⟩
theorem chg_good {xs : List Mv} (k : Nat) (hk : k < xs.length) (hg : GoodO (xs.take k)) (hc : isP xs[k].2 = true → chgF (xs.take k) (pidx xs[k].2) = false) (hs : isS xs[k].2 = true) : GoodO (xs.take (k + 1)) := by
  rw [GoodO_step xs k hk]
  refine ⟨hg, fun x hx hb => ?_⟩
  unfold isS at hs
  rw [Bool.or_eq_true] at hs
  rcases hs with hp | hd
  · have := hc hp
    unfold chgF at this
    rw [(pidx_spec hp).2, List.any_eq_false] at this
    exact this x hx (by rw [decide_eq_true_eq]; exact ⟨hb.1, fun e => hb.2.1 (e.symm.trans hb.1)⟩)
  · rw [hb.2.2] at hd; cases hd
end Go.PM
namespace Go.Proofs.YthgcoocgeekdnaaDoor
open Go.RowKit Go.PM

end Go.Proofs.YthgcoocgeekdnaaDoor
namespace Go.PM
open Go.RowKit Go.PW
/-- moves that can be done as they stand do themselves -/
theorem ord_run {xs : List Mv} (h : MV xs) (hg : GoodO xs) : ∀ k, k ≤ xs.length → ∀ p, p < 9 → runM (xs.take k) nmT p = if nm p ∈ (xs.take k).map (·.1) then rdS nmT (srcM xs (nm p)) else nmT p := by
  intro k
  induction k with
  | zero => intro _ p _; simp [runM]
  | succ k ih =>
    intro hk p hp
    have hlt : k < xs.length := by omega
    have ih := ih (by omega)
    have hm := h.1 _ (List.getElem_mem hlt)
    unfold mok at hm; rw [Bool.and_eq_true] at hm
    have hP := pidx_spec hm.1
    have hC := cidx_P hm.1
    have hsrc : srcM xs xs[k].1 = xs[k].2 := srcM_of_mem h (List.getElem_mem hlt)
    have hgk := (GoodO_step xs k hlt).1 (GoodO_take hg (k + 1))
    -- what the move reads is as at the start
    have hrd : rdS (runM (xs.take k) nmT) xs[k].2 = rdS nmT xs[k].2 := by
      rcases Bool.eq_false_or_eq_true (isC xs[k].2) with hc | hc
      · rw [rdS_cell hc, rdS_cell hc]
        have hp2 : isP xs[k].2 = true := by
          have hs := hm.2
          unfold isS at hs
          rw [Bool.or_eq_true] at hs
          rcases hs with hs | hs
          · exact hs
          · rw [isD_notC hs] at hc; cases hc
        have hq := cidx_P hp2
        rw [ih _ hq.2.1, hq.2.2]
        split
        · next hin =>
          obtain ⟨x, hx, ex⟩ := List.mem_map.1 hin
          have hnb := hgk.2 x hx
          have hx2 : x.2 = xs[k].2 := Classical.not_not.1 fun hne => hnb ⟨ex, hne, (isP_cases hp2).1⟩
          have hxs : srcM xs x.1 = x.2 := srcM_of_mem h (List.mem_of_mem_take hx)
          have ex' : x.1 = xs[k].2 := ex
          rw [ex'] at hxs
          rw [hxs, hx2, rdS_cell hc]
        · rfl
      · rw [rdS_digit hc, rdS_digit hc]
    have hrun : runM (xs.take (k + 1)) nmT = updS (runM (xs.take k) nmT) (cidx xs[k].1) (rdS (runM (xs.take k) nmT) xs[k].2) := by
      unfold runM
      rw [take_snoc xs k hlt, List.foldl_append]; rfl
    rw [hrun, hrd]
    have hkeys : nm p ∈ (xs.take (k + 1)).map (·.1) ↔ nm p ∈ (xs.take k).map (·.1) ∨ nm p = xs[k].1 := by
      rw [take_snoc xs k hlt, List.map_append, List.mem_append]; simp
    by_cases e : nm p = xs[k].1
    · have hpc : cidx xs[k].1 = p := by rw [← e, (cidx_nm hp).2]
      rw [updS, if_pos hpc.symm, if_pos (hkeys.2 (.inr e)), e, hsrc]
    · have hpc : p ≠ cidx xs[k].1 := fun e2 => e (by rw [e2]; exact hC.2.2)
      rw [updS, if_neg hpc, ih p hp]
      by_cases hin : nm p ∈ (xs.take k).map (·.1)
      · rw [if_pos hin, if_pos (hkeys.2 (.inl hin))]
      · rw [if_neg hin, if_neg (fun h2 => (hkeys.1 h2).elim hin e)]
theorem ord_right {xs : List Mv} (h : ordB xs = true) : irB (stL xs) xs = true := by
  unfold ordB at h
  rw [Bool.and_eq_true, decide_eq_true_eq] at h
  have hMV : MV xs := by simpa [mvalid] using h.1
  have hl := MV_len hMV
  refine right_of_run (svalid_stL (by omega) fun m hm => ?_) hMV fun p hp => ?_
  · have := hMV.1 m hm
    unfold mok isS at this
    rw [Bool.and_eq_true, Bool.or_eq_true] at this
    refine ⟨.inl this.1, ?_⟩
    rcases this.2 with h2 | h2
    · exact .inl h2
    · exact .inr (.inl h2)
  · have := ord_run hMV h.2 xs.length (Nat.le_refl _) p hp
    rw [List.take_length] at this
    rw [this]
    split
    · rfl
    · next hn =>
      have : srcM xs (nm p) = nm p := srcM_none hn
      rw [this, rdS_nm nmT hp]
/-- what is taken ahead: no taken move's place is read by a later one -/
theorem takF_facts : ∀ (n : Nat) (ws : List Mv), (ws.map (·.1)).Nodup → (takF n ws).Pairwise (fun x m => x.1 ≠ m.2) ∧ ((takF n ws).map (·.1)).Nodup ∧ (∀ m ∈ takF n ws, m ∈ ws) ∧ (ws.length ≤ n → (takF n ws).length = ws.length → ∀ m ∈ ws, m ∈ takF n ws)
  | 0, ws, _ => by
    refine ⟨List.Pairwise.nil, List.nodup_nil, fun m h => (by cases h), fun h _ m hm => ?_⟩
    have : ws = [] := List.length_eq_zero_iff.1 (by omega)
    rw [this] at hm; cases hm
  | n + 1, ws, hk => by
    cases ha : aheadI ws with
    | none =>
      rw [takF_none ha]
      refine ⟨List.Pairwise.nil, List.nodup_nil, fun m h => (by cases h), fun _ h m hm => ?_⟩
      have : ws = [] := List.length_eq_zero_iff.1 h.symm
      rw [this] at hm; cases hm
    | some i =>
      obtain ⟨hi, hf⟩ := aheadI_some ha
      rw [takF_some hi ha]
      have hk2 : ((ws.eraseIdx i).map (·.1)).Nodup := hk.sublist ((List.eraseIdx_sublist ws i).map _)
      obtain ⟨f1, f2, f3, f4⟩ := takF_facts n (ws.eraseIdx i) hk2
      refine ⟨List.Pairwise.cons (fun m hm e => rdN_zero.1 hf m (erase_mem (f3 m hm)) e.symm) f1, ?_, fun m hm => ?_, fun hl he m hm => ?_⟩
      · rw [List.map_cons, List.nodup_cons]
        refine ⟨fun hmem => ?_, f2⟩
        obtain ⟨x, hx, e⟩ := List.mem_map.1 hmem
        exact erase_key hk hi x (f3 x hx) e
      · rw [List.mem_cons] at hm
        rcases hm with rfl | hm
        · exact List.getElem_mem hi
        · exact erase_mem (f3 m hm)
      · rw [List.length_cons] at he
        have hle : (ws.eraseIdx i).length = ws.length - 1 := List.length_eraseIdx_of_lt hi
        rw [List.mem_cons]
        rcases erase_or hi hm with h2 | h2
        · exact .inl h2
        · exact .inr (f4 (by omega) (by omega) m h2)
theorem busyF_MV {xs : List Mv} (h : MV xs) : MV (busyF xs 9) := by
  have hl : busyF xs 9 = lsF (fun p => srcM xs (nm p)) 9 := rfl
  rw [hl]; exact lsF_MV (SVal_M h)
theorem busyF_mem {xs : List Mv} (h : MV xs) (m : Mv) : m ∈ busyF xs 9 ↔ m ∈ xs ∧ m.1 ≠ m.2 := by
  have hl : busyF xs 9 = lsF (fun p => srcM xs (nm p)) 9 := rfl
  rw [hl]
  constructor
  · intro hm
    obtain ⟨p, _, hne, e⟩ := lsF_mem hm
    rw [e]
    exact ⟨mem_of_srcM hne, fun e => hne e.symm⟩
  · rintro ⟨hm, hne⟩
    have hok := h.1 m hm
    unfold mok at hok; rw [Bool.and_eq_true] at hok
    have hp := pidx_spec hok.1
    have hs := srcM_of_mem h hm
    refine List.mem_map.2 ⟨pidx m.1, List.mem_filter.2 ⟨List.mem_range.2 hp.1, ?_⟩, ?_⟩
    · unfold lsH
      simp only [hp.2, hs, decide_eq_true_eq]
      exact fun e => hne e.symm
    · simp only [hp.2, hs]
theorem wsp_good {xs : List Mv} (h : wspB xs = true) : ordB (wspM xs) = true ∧ sameM (wspM xs) xs = true := by
  have hw : wspM xs = takM xs := by unfold wspM; rw [if_pos h]
  unfold wspB at h
  rw [Bool.and_eq_true, decide_eq_true_eq] at h
  have hMV : MV xs := by simpa [mvalid] using h.1
  have hB := busyF_MV hMV
  obtain ⟨f1, f2, f3, f4⟩ := takF_facts 9 (busyF xs 9) hB.2
  have hT : MV (takM xs) := ⟨fun m hm => hB.1 m (f3 m hm), f2⟩
  rw [hw]
  constructor
  · unfold ordB
    rw [Bool.and_eq_true, decide_eq_true_eq]
    refine ⟨by simpa [mvalid] using hT, List.Pairwise.imp ?_ f1⟩
    intro x m hne hb
    exact hne hb.1
  · have h4 := f4 (busyF_len xs 9) h.2
    have key : ∀ a, srcM (takM xs) a = srcM xs a := fun a => by
      by_cases h0 : srcM (takM xs) a = a
      · by_cases h1 : srcM xs a = a
        · rw [h0, h1]
        · have h3 := mem_of_srcM h1
          exact srcM_of_mem hT (h4 _ ((busyF_mem hMV (a, srcM xs a)).2 ⟨h3, fun e => h1 e.symm⟩))
      · have h3 := f3 _ (mem_of_srcM h0)
        exact (srcM_of_mem hMV ((busyF_mem hMV _).1 h3).1).symm
    unfold sameM
    rw [show mvalid (takM xs) = true by simpa [mvalid] using hT, h.1, Bool.true_and, Bool.true_and, List.all_eq_true]
    intro p _
    unfold sameAt
    rw [key, decide_eq_true rfl]
/-- moves that wait for one another are never taken -/
theorem takF_ring (R : Mv → Prop) : ∀ (n : Nat) (ws : List Mv), (∃ m, R m) → (∀ m, R m → m ∈ ws ∧ ∃ x, R x ∧ x.2 = m.1) → (takF n ws).length < ws.length
  | 0, ws, ⟨m, hm⟩, hR => by
    have := List.length_pos_of_mem (hR m hm).1
    exact this
  | n + 1, ws, hne, hR => by
    cases ha : aheadI ws with
    | none =>
      rw [takF_none ha]
      obtain ⟨m, hm⟩ := hne
      exact List.length_pos_of_mem (hR m hm).1
    | some i =>
      obtain ⟨hi, hf⟩ := aheadI_some ha
      rw [takF_some hi ha, List.length_cons]
      have hz := rdN_zero.1 hf
      have := takF_ring R n (ws.eraseIdx i) hne (fun m hm => by
        obtain ⟨h1, x, hx, ex⟩ := hR m hm
        refine ⟨?_, x, hx, ex⟩
        rcases erase_or hi h1 with e | e
        · exact absurd (by rw [ex, e]) (hz x (hR x hx).1)
        · exact e)
      rw [List.length_eraseIdx_of_lt hi] at this
      omega
/-- where not all are taken, some wait for one another -/
theorem takF_left : ∀ (n : Nat) (ws : List Mv), Wt ws → ws.length ≤ n → (takF n ws).length < ws.length → ∃ vs : List Mv, vs ≠ [] ∧ (∀ m ∈ vs, m ∈ ws) ∧ ∀ m ∈ vs, ∃ x ∈ vs, x.1 = m.2
  | 0, ws, _, hl, h => by omega
  | n + 1, ws, hw, hl, h => by
    cases ha : aheadI ws with
    | none =>
      rw [takF_none ha] at h
      refine ⟨ws, fun e => by rw [e] at h; simp at h, fun m hm => hm, (hw.full ha).2.1⟩
    | some i =>
      obtain ⟨hi, hf⟩ := aheadI_some ha
      rw [takF_some hi ha, List.length_cons] at h
      have hle : (ws.eraseIdx i).length = ws.length - 1 := List.length_eraseIdx_of_lt hi
      obtain ⟨vs, h1, h2, h3⟩ := takF_left n (ws.eraseIdx i) (hw.erase i) (by omega) (by omega)
      exact ⟨vs, h1, fun m hm => erase_mem (h2 m hm), h3⟩
theorem busy_nx {xs : List Mv} (h : MV xs) {m : Mv} (hm : m ∈ busyF xs 9) : nxT (tabOf xs) (pidx m.1) = some (sidx m.2) ∧ isP m.1 = true ∧ m.2 = sn (sidx m.2) ∧ sidx m.2 < 19 := by
  have hB := (busyF_MV h).1 m hm
  unfold mok at hB; rw [Bool.and_eq_true] at hB
  have hp := pidx_spec hB.1
  have hs := sidx_spec hB.2
  have hx := (busyF_mem h m).1 hm
  have hsrc : srcT (tabOf xs) (pidx m.1) = m.2 := by rw [srcM_place h hB.1, srcM_of_mem h hx.1]
  have hsx : sx (tabOf xs) (pidx m.1) = sidx m.2 := by unfold sx; rw [hsrc]
  refine ⟨?_, hB.1, hs.2.symm, hs.1⟩
  rw [nxT_some hp.1 (by rw [hsx]; intro e; apply hx.2; rw [← hp.2, ← hs.2, e, sn_nm _ hp.1]), hsx]
theorem wsp_rings {xs : List Mv} (h : MV xs) : wspB xs = decide (ringsF (nxT (tabOf xs)) 9 = []) := by
  have hf := SV_tab h
  have hn := nice hf
  have hw : wspB xs = decide ((takM xs).length = (busyF xs 9).length) := by
    unfold wspB; rw [show mvalid xs = true by simpa [mvalid] using h]; rfl
  rw [hw, decide_eq_decide]
  constructor
  · intro heq
    refine Classical.byContradiction fun hne => ?_
    obtain ⟨l, hl⟩ := List.exists_mem_of_ne_nil _ hne
    obtain ⟨s, hs9, rfl, hon, _⟩ := ringsF_mem2 9 l hl
    have hs19 : s < 19 := by omega
    have hO := (onRb_iff hn hs19).1 hon
    have hall := ring_all hn hs19 hO
    -- the moves of the ring
    have hmv : ∀ p, p ∈ way (nxT (tabOf xs)) s → p < 9 ∧ (nm p, srcM xs (nm p)) ∈ busyF xs 9 ∧ nxT (tabOf xs) p = some (sx (tabOf xs) p) := fun p hp => by
      have hp9 := ring_low hn (hall p hp)
      have hne2 : sx (tabOf xs) p ≠ p := fun e => by
        obtain ⟨k, hk, ek⟩ := hall p hp
        obtain ⟨k, rfl⟩ : ∃ m, k = m + 1 := ⟨k - 1, by omega⟩
        rw [show k + 1 = 1 + k by omega, orb_add] at ek
        simp only [orb, Option.bind_some, nxT_stay hp9 e] at ek
        cases ek
      refine ⟨hp9, ?_, nxT_some hp9 hne2⟩
      have hsrc : srcM xs (nm p) ≠ nm p := fun e => by
        rw [← srcM_nm h hp9] at e
        exact hne2 ((src_self hf hp9).1 e)
      exact (busyF_mem h _).2 ⟨mem_of_srcM hsrc, fun e => hsrc e.symm⟩
    have := takF_ring (fun m => ∃ p, p ∈ way (nxT (tabOf xs)) s ∧ m = (nm p, srcM xs (nm p))) 9 (busyF xs 9)
      ⟨_, s, List.mem_of_getElem? ((way_rho hn hs19).at_ 0 (way_rho hn hs19).pos), rfl⟩ (by
        rintro m ⟨p, hp, rfl⟩
        refine ⟨(hmv p hp).2.1, ?_⟩
        -- its reader on the ring
        obtain ⟨k, hk, ek⟩ := hall p hp
        obtain ⟨k, rfl⟩ : ∃ m, k = m + 1 := ⟨k - 1, by omega⟩
        have ek' := ek
        simp only [orb, Option.bind_eq_some_iff] at ek'
        obtain ⟨q, hq1, hq2⟩ := ek'
        have hqw := ring_orb hn hs19 hon hp k q hq1
        obtain ⟨hq9, _, hqn⟩ := hmv q hqw
        rw [hqn] at hq2
        have hsxq : sx (tabOf xs) q = p := Option.some.inj hq2
        refine ⟨(nm q, srcM xs (nm q)), ⟨q, hqw, rfl⟩, ?_⟩
        show srcM xs (nm q) = nm p
        rw [← srcM_nm h hq9, ← (sx_lt hf hq9).2, hsxq, sn_nm p (hmv p hp).1])
    unfold takM at heq
    omega
  · intro hr
    refine Classical.byContradiction fun hne => ?_
    have hlt : (takF 9 (busyF xs 9)).length < (busyF xs 9).length := by
      have := takF_len 9 (busyF xs 9)
      unfold takM at hne
      omega
    obtain ⟨vs, hv0, hv1, hv2⟩ := takF_left 9 (busyF xs 9) (busyF_Wt h) (busyF_len xs 9) hlt
    obtain ⟨m0, hm0⟩ := List.exists_mem_of_ne_nil _ hv0
    -- the way from there never ends
    have hway : ∀ k, ∃ m ∈ vs, orb (nxT (tabOf xs)) (pidx m0.1) k = some (pidx m.1) := by
      intro k
      induction k with
      | zero => exact ⟨m0, hm0, rfl⟩
      | succ k ih =>
        obtain ⟨m, hm, e⟩ := ih
        obtain ⟨x, hx, ex⟩ := hv2 m hm
        have hb := busy_nx h (hv1 m hm)
        have hxP := (busy_nx h (hv1 x hx)).2.1
        refine ⟨x, hx, ?_⟩
        simp only [orb, e, Option.bind_some, hb.1]
        rw [ex, Option.some.injEq]
        exact sidx_pidx (by rw [← ex]; exact hxP)
    have hlt9 : ∀ k, k ≤ 9 → ((orb (nxT (tabOf xs)) (pidx m0.1) k).getD 0) < 9 := fun k _ => by
      obtain ⟨m, hm, e⟩ := hway k
      rw [e]
      exact (pidx_spec (busy_nx h (hv1 m hm)).2.1).1
    obtain ⟨i, j, hij, _, e⟩ := pigeon 9 (fun k => (orb (nxT (tabOf xs)) (pidx m0.1) k).getD 0) hlt9
    obtain ⟨mi, hmi, ei⟩ := hway i
    obtain ⟨mj, hmj, ej⟩ := hway j
    simp only [ei, ej, Option.getD_some] at e
    have hq9 := (pidx_spec (busy_nx h (hv1 mi hmi)).2.1).1
    have hon : OnR (nxT (tabOf xs)) (pidx mi.1) := by
      refine ⟨j - i, by omega, ?_⟩
      have := orb_add (nx := nxT (tabOf xs)) (pidx m0.1) i (j - i)
      rw [show i + (j - i) = j by omega, ej, ei] at this
      rw [e]
      simpa [e] using this.symm
    have := ringsF_in hn hq9 ((onRb_iff hn (by omega)).2 hon) 9 hq9
    rw [hr] at this
    cases this
end Go.PM
namespace Go.PM
open Go.RowKit
theorem cell_inj : ∀ p < 11, ∀ q < 11, cellsL.getD q 0 = cellsL.getD p 0 → q = p := by decide +kernel
theorem pmH_pick (h : Nat → Bool) (p : Nat) (hp : p < 11) : pmH (pickB cellsL h 11) ⟨#[cellsL.getD p 0]⟩ = h p := by
  rw [pmH_one, Bool.eq_iff_iff, decide_eq_true_eq]
  unfold pickB pickL
  simp only [List.mem_map, List.mem_filter, List.mem_range]
  constructor
  · rintro ⟨q, ⟨hq, hh⟩, e⟩
    rw [cell_inj p hp q hq e] at hh; exact hh
  · intro hh; exact ⟨p, ⟨hp, hh⟩, rfl⟩
theorem nm_tq {p : Nat} (hp : p < 9) : nm p = tq p := by
  match p, hp with
  | 0, _ | 1, _ | 2, _ | 3, _ | 4, _ | 5, _ | 6, _ | 7, _ | 8, _ => decide +kernel
theorem tq_cell {p : Nat} (hp : p < 11) : isC (tq p) = true ∧ cidx (tq p) = p := by
  match p, hp with
  | 0, _ | 1, _ | 2, _ | 3, _ | 4, _ | 5, _ | 6, _ | 7, _ | 8, _ | 9, _ | 10, _ => decide +kernel
theorem tq_of {a : ByteArray} (h : isC a = true) : tq (cidx a) = a := by
  obtain ⟨c, rfl⟩ := one_of_size (isC_size h)
  have h2 : c ∈ cellsL := by simpa [isC] using h
  show (⟨#[cellsL.getD (cidx ⟨#[c]⟩) 0]⟩ : ByteArray) = _
  rw [(cidx_one h2).2.2]
theorem st_kind {x : St} (h : stOk x = true) : (x.1 = 0 ∧ isC x.2.1 = true ∧ okC x.2.2 = true) ∨ (x.1 = 1 ∧ isC x.2.1 = true ∧ isC x.2.2 = true) := by
  unfold stOk at h
  rw [Bool.or_eq_true] at h
  rcases h with h | h
  · simp only [Bool.and_eq_true, decide_eq_true_eq] at h
    exact .inl ⟨h.1, h.2.1, h.2.2⟩
  · simp only [Bool.and_eq_true, decide_eq_true_eq] at h
    exact .inr ⟨h.1, h.2.1, h.2.2⟩
/-- steps give in every state what they give to names -/
theorem run_names (xs : List St) (h : svalid xs = true) (f : Nat → UInt8) : ∀ k, k ≤ xs.length → ∀ p, p < 11 → runS xs k f p = rdS f ⟨#[runS xs k nmT p]⟩ := by
  intro k
  induction k with
  | zero =>
    intro _ p hp
    rw [runS_zero, runS_zero]
    have := tq_cell hp
    show f p = rdS f (tq p)
    rw [rdS_cell this.1, this.2]
  | succ k ih =>
    intro hk p hp
    have ih := ih (by omega)
    have hkl : k < xs.length := by omega
    rw [runS_succ xs k hkl, runS_succ xs k hkl]
    have hv := svalid_at h k hkl
    generalize xs[k] = x at hv
    generalize runS xs k f = f1 at ih
    generalize runS xs k nmT = g1 at ih
    unfold doS
    rcases st_kind hv with ⟨h1, h2, h3⟩ | ⟨h1, h2, h3⟩
    · rw [if_neg (by omega), if_neg (by omega)]
      unfold updS
      by_cases hpq : p = cidx x.2.1
      · rw [if_pos hpq, if_pos hpq]
        by_cases hc : isC x.2.2 = true
        · rw [rdS_cell hc, rdS_cell hc, ih _ (cidx_lt hc)]
        · have hc' : isC x.2.2 = false := by simpa using hc
          have h4 := fc_one (okC_size h3)
          rw [rdS_digit hc', rdS_digit hc', ← h4, rdS_digit hc']
      · rw [if_neg hpq, if_neg hpq]; exact ih p hp
    · rw [if_pos h1, if_pos h1]
      unfold swS
      by_cases hp1 : p = cidx x.2.1
      · rw [if_pos hp1, if_pos hp1]; exact ih _ (cidx_lt h3)
      · rw [if_neg hp1, if_neg hp1]
        by_cases hp2 : p = cidx x.2.2
        · rw [if_pos hp2, if_pos hp2]; exact ih _ (cidx_lt h2)
        · rw [if_neg hp2, if_neg hp2]; exact ih p hp
/-- what is not touched stays -/
theorem run_stays (xs : List St) (h : svalid xs = true) (f : Nat → UInt8) {p : Nat} (_hp : p < 11) : ∀ k, k ≤ xs.length → tcI xs p k = false → runS xs k f p = f p := by
  intro k
  induction k with
  | zero => intro _ _; rw [runS_zero]
  | succ k ih =>
    intro hk ht
    have hkl : k < xs.length := by omega
    rw [tcI_succ xs p k hkl, Bool.or_eq_false_iff] at ht
    have ih := ih (by omega) ht.1
    rw [runS_succ xs k hkl]
    have hv := svalid_at h k hkl
    have ht2 := ht.2
    generalize xs[k] = x at hv ht2
    generalize runS xs k f = f1 at ih
    unfold tcX at ht2
    rw [Bool.or_eq_false_iff, decide_eq_false_iff_not] at ht2
    have hne : ∀ a, isC a = true → a ≠ tq p → p ≠ cidx a := fun a ha hn e => hn (by rw [e, tq_of ha])
    unfold doS
    rcases st_kind hv with ⟨h1, h2, h3⟩ | ⟨h1, h2, h3⟩
    · rw [if_neg (by omega)]
      unfold updS
      rw [if_neg (hne _ h2 ht2.1)]; exact ih
    · rw [if_pos h1]
      have h4 : x.2.2 ≠ tq p := by simpa [h1] using ht2.2
      unfold swS
      rw [if_neg (hne _ h2 ht2.1), if_neg (hne _ h3 h4)]; exact ih
theorem tcB_pmH {xs : List St} (h : svalid xs = true) {p : Nat} (hp : p < 9) : pmH (tcB xs) (nm p) = tcH xs p := by
  have e : tcB xs = pickB cellsL (tcH xs) 11 := by unfold tcB; rw [h]; rfl
  rw [e, nm_tq hp]
  exact pmH_pick (tcH xs) p (by omega)
/-- the moves that steps do are of touched places -/
theorem eff_touched (xs : List St) : ∀ m ∈ effM xs, m.1 ≠ m.2 ∧ pmH (tcB xs) m.1 = true := by
  intro m hm
  rcases Bool.eq_false_or_eq_true (effOk xs) with ho | ho
  · rw [effM_yes ho] at hm
    have hv : svalid xs = true := by unfold effOk at ho; rw [Bool.and_eq_true] at ho; exact ho.1
    obtain ⟨h1, h2⟩ := List.mem_filter.1 hm
    have h2 : m.1 ≠ m.2 := by simpa using h2
    refine ⟨h2, ?_⟩
    obtain ⟨p, hp, rfl⟩ := List.mem_map.1 h1
    have hp9 : p < 9 := by simpa using hp
    show pmH (tcB xs) (nm p) = true
    rw [tcB_pmH hv hp9, ← tcI_full hv p]
    rcases Bool.eq_false_or_eq_true (tcI xs p xs.length) with ht | ht
    · exact ht
    · exfalso
      have := run_stays xs hv nmT (show p < 11 by omega) xs.length (Nat.le_refl _) ht
      apply h2
      show nm p = ⟨#[effG xs p]⟩
      rw [nm_tq hp9]
      show tq p = ⟨#[runS xs xs.length nmT p]⟩
      rw [this]; rfl
  · rw [effM_no ho] at hm; cases hm
/-- done at once they give to places what the steps give -/
theorem eff_once {xs : List St} (ho : effOk xs = true) {s : ByteArray} (hs : stateV s = true) :
    (mvalid (effM xs) && stateV s) = true ∧ (aoB (effM xs) s).extract 0 9 = (ioB xs s).extract 0 9 ∧ irB xs (effM xs) = true ∧ (aoB (effM xs) s).size = 11 ∧ (ioB xs s).size = 11 := by
  have hv : svalid xs = true := by unfold effOk at ho; rw [Bool.and_eq_true] at ho; exact ho.1
  have hmv : MV (effL (effG xs) 9) := by
    unfold effOk at ho; rw [Bool.and_eq_true] at ho
    simpa [mvalid] using ho.2
  have hM : MV (effM xs) := by rw [effM_yes ho]; exact busyM_MV hmv
  have m1 : mvalid (effM xs) = true := by simpa [mvalid] using hM
  have e1 : aoB (effM xs) s = stB (aoS (tabOf (effM xs)) (ofB s)) := by unfold aoB; rw [m1, hs]; rfl
  have e2 : ioB xs s = stB (runS xs xs.length (ofB s)) := by unfold ioB; rw [hv, hs]; rfl
  refine ⟨by rw [m1, hs]; rfl, ?_, ?_, by rw [e1]; rfl, by rw [e2]; rfl⟩
  · have key : ∀ p, p < 9 → aoS (tabOf (effM xs)) (ofB s) p = runS xs xs.length (ofB s) p := fun p hp => by
      have hk : srcM (effM xs) (nm p) = ⟨#[effG xs p]⟩ := by rw [effM_yes ho, srcM_busy _ _ hmv.2, srcM_effL _ p hp]
      unfold aoS
      rw [if_pos hp, srcM_nm hM hp, hk, run_names xs hv (ofB s) xs.length (Nat.le_refl _) p (by omega)]
      rfl
    rw [e1, e2]
    have e3 : ∀ f : Nat → UInt8, (stB f).extract 0 9 = ⟨#[f 0, f 1, f 2, f 3, f 4, f 5, f 6, f 7, f 8]⟩ := fun f => by
      apply ByteArray.ext
      simp [stB, ByteArray.data_extract]
    rw [e3, e3, key 0 (by omega), key 1 (by omega), key 2 (by omega), key 3 (by omega), key 4 (by omega), key 5 (by omega), key 6 (by omega), key 7 (by omega), key 8 (by omega)]
  · unfold irB sameM
    rw [ho, m1, Bool.true_and, Bool.true_and, Bool.true_and, List.all_eq_true]
    intro p _
    unfold sameAt
    exact decide_eq_true rfl
theorem effM_len (xs : List St) : (effM xs).length ≤ 9 := by
  rcases Bool.eq_false_or_eq_true (effOk xs) with h | h
  · rw [effM_yes h]; exact busyE_le _ 9
  · rw [effM_no h]; exact Nat.zero_le _
theorem ioB_out (xs : List St) (s : ByteArray) (h : (svalid xs && stateV s) = false) : ioB xs s = ⟨#[]⟩ := by unfold ioB; rw [h]; rfl
theorem tcB_size (xs : List St) : (tcB xs).size ≤ 11 := by
  unfold tcB okS
  split
  · exact pickB_size _ _ _
  · exact Nat.zero_le _
end Go.PM
namespace Go.PW
open Go.PM Go.RowKit
/-- the first place of a ring -/
def firstR (nx : Nat → Option Nat) (s : Nat) : Bool := onRb nx s && decide (s ∉ (ringsF nx s).flatten)
theorem ringsF_map (nx : Nat → Option Nat) : ∀ k, ringsF nx k = ((List.range k).filter (firstR nx)).map (way nx) := by
  intro k
  induction k with
  | zero => rfl
  | succ k ih =>
    rw [List.range_succ, List.filter_append, List.map_append, ← ih]
    by_cases hc : onRb nx k = true ∧ k ∉ (ringsF nx k).flatten
    · have hf : firstR nx k = true := by unfold firstR; rw [hc.1, decide_eq_true hc.2]; rfl
      rw [ringsF_yes hc.1 hc.2]; simp [hf]
    · have hf : firstR nx k = false := by
        unfold firstR
        rcases Bool.eq_false_or_eq_true (onRb nx k) with h1 | h1
        · rw [h1, decide_eq_false (fun h2 => hc ⟨h1, h2⟩)]; rfl
        · rw [h1]; rfl
      rw [ringsF_no hc]; simp [hf]
theorem closedB_count {xs : List Mv} (h : MV xs) : (closedB xs).length = ((List.range 9).filter fun s => firstR (nxT (tabOf xs)) s && shut1 (tabOf xs) (way (nxT (tabOf xs)) s)).length := by
  unfold closedB closedT
  rw [if_pos (by simpa [mvalid] using h), List.length_map, ringsF_map, List.filter_map, List.length_map, List.filter_filter]
  congr 1
  refine List.filter_congr fun s _ => ?_
  exact Bool.and_comm _ _
theorem rcount_rdN {xs : List Mv} (h : MV xs) {q : Nat} (hq : q < 9) : rdN (busyF xs 9) (nm q) = rcount (tabOf xs) q := by
  have e1 : rcount (tabOf xs) q = ((List.range 9).filter (rdH (tabOf xs) (sn q))).length := by
    unfold rcount namesW
    simp [ByteArray.size, namesL]
  have e2 : rdN (busyF xs 9) (nm q) = ((List.range 9).filter fun p => busyH xs p && (srcM xs (nm p) == nm q)).length := by
    unfold rdN busyF
    rw [List.map_map, List.count_eq_countP, List.countP_map, List.countP_eq_length_filter, List.filter_filter]
    congr 1
    refine List.filter_congr fun p _ => ?_
    exact Bool.and_comm _ _
  rw [e1, e2]
  congr 1
  refine List.filter_congr fun p hp => ?_
  have hp9 := List.mem_range.1 hp
  have e3 : srcT (tabOf xs) p = srcM xs (nm p) := srcT_M h hp9
  unfold busyH rdH
  rw [e3, sn_nm q hq, Bool.eq_iff_iff, Bool.and_eq_true, Bool.and_eq_true, decide_eq_true_eq, beq_iff_eq, decide_eq_true_eq, decide_eq_true_eq]
  constructor
  · rintro ⟨h1, h2⟩; exact ⟨fun e => h1 (by rw [h2, e]), h2⟩
  · rintro ⟨h1, h2⟩; exact ⟨fun e => h1 (by rw [← e, h2]), h2⟩
theorem busy_next {xs : List Mv} (h : MV xs) {p : Nat} (hp : p < 9) {b : ByteArray} (hb : (nm p, b) ∈ busyF xs 9) : ∃ j, nxT (tabOf xs) p = some j ∧ sn j = b ∧ sidx b = j := by
  obtain ⟨h1, h2⟩ := (busyF_mem h _).1 hb
  have hs : srcM xs (nm p) = b := srcM_of_mem h h1
  have e3 : srcT (tabOf xs) p = srcM xs (nm p) := srcT_M h hp
  have hf := SV_tab h
  have hx := sx_lt hf hp
  rw [e3, hs] at hx
  have hne : sx (tabOf xs) p ≠ p := fun e => by
    rw [e, sn_nm p hp] at hx
    exact h2 hx.2
  exact ⟨_, nxT_some hp hne, hx.2, by rw [← hx.2, sidx_sn hx.1]⟩
theorem next_busy {xs : List Mv} (h : MV xs) {p j : Nat} (hn : nxT (tabOf xs) p = some j) : p < 9 ∧ (nm p, sn j) ∈ busyF xs 9 := by
  have hf := SV_tab h
  have hp : p < 9 := (nice hf).low p j hn
  refine ⟨hp, ?_⟩
  unfold nxT at hn
  rw [if_pos hp] at hn
  by_cases e : sx (tabOf xs) p = p
  · rw [if_pos e] at hn; cases hn
  · rw [if_neg e, Option.some.injEq] at hn
    have hx := sx_lt hf hp
    have e3 : srcT (tabOf xs) p = srcM xs (nm p) := srcT_M h hp
    rw [e3, hn] at hx
    have hj : j ≠ p := fun e2 => e (by rw [hn, e2])
    have hne : srcM xs (nm p) ≠ nm p := by
      rw [← hx.2, ← sn_nm p hp]
      exact fun e2 => hj (sn_inj hx.1 (by omega) e2)
    rw [hx.2]
    exact (busyF_mem h _).2 ⟨mem_of_srcM hne, fun e2 => hne e2.symm⟩
theorem clo_bridge {xs : List Mv} (h : MV xs) {p : Nat} (hp : p < 9) :
    Clo (busyF xs 9) p ↔ (firstR (nxT (tabOf xs)) p && shut1 (tabOf xs) (way (nxT (tabOf xs)) p)) = true := by
  have hf := SV_tab h
  have hn := nice hf
  have hr := way_rho hn (show p < 19 by omega)
  rw [Bool.and_eq_true]
  unfold firstR shut1
  rw [Bool.and_eq_true, decide_eq_true_eq, List.all_eq_true]
  constructor
  · rintro ⟨n, o, h0, o0, on, hk⟩
    have hoP : ∀ k, k < n → isP (o k) = true := fun k hkn => by
      have h1 := ((busyF_mem h _).1 (hk k hkn).1).1
      have := h.1 _ h1
      unfold mok at this; rw [Bool.and_eq_true] at this; exact this.1
    have hstep : ∀ k, k < n → ∃ j, j < n ∧ nxT (tabOf xs) (pidx (o k)) = some (pidx (o j)) ∧ o j = o (k + 1) := fun k hkn => by
      obtain ⟨j, hj, e⟩ := ring_wrap h0 (on.trans o0.symm) hkn
      have hs := pidx_spec (hoP k hkn)
      have hb := (hk k hkn).1
      rw [← hs.2] at hb
      obtain ⟨t, ht1, ht2, ht3⟩ := busy_next h hs.1 hb
      refine ⟨j, hj, ?_, e.symm⟩
      rw [ht1, ← ht3, e, sidx_pidx (hoP j hj)]
    have horb : ∀ k, ∃ j, j < n ∧ orb (nxT (tabOf xs)) p k = some (pidx (o j)) := by
      intro k
      induction k with
      | zero => exact ⟨0, h0, by rw [o0, pidx_nm hp]; rfl⟩
      | succ k ih =>
        obtain ⟨j, hj, e⟩ := ih
        obtain ⟨j', hj', e', _⟩ := hstep j hj
        exact ⟨j', hj', by simp only [orb, e, Option.bind_some]; exact e'⟩
    have horb2 : ∀ k, k < n → orb (nxT (tabOf xs)) p k = some (pidx (o k)) := by
      intro k
      induction k with
      | zero => intro _; rw [o0, pidx_nm hp]; rfl
      | succ k ih =>
        intro hk1
        obtain ⟨j', hj', e', e2⟩ := hstep k (by omega)
        simp only [orb, ih (by omega), Option.bind_some]
        rw [e', e2]
    have hon : OnR (nxT (tabOf xs)) p := by
      refine ⟨n, h0, ?_⟩
      obtain ⟨m, rfl⟩ : ∃ m, n = m + 1 := ⟨n - 1, by omega⟩
      obtain ⟨j', hj', e', e2⟩ := hstep m (by omega)
      simp only [orb, horb2 m (by omega), Option.bind_some]
      rw [e', e2, on, pidx_nm hp]
    have hrb := (onRb_iff hn (show p < 19 by omega)).2 hon
    have hway : ∀ i ∈ way (nxT (tabOf xs)) p, ∃ j, j < n ∧ i = pidx (o j) := fun i hi => by
      obtain ⟨k, hk1⟩ := List.getElem?_of_mem hi
      have hkl := (List.getElem?_eq_some_iff.1 hk1).1
      rw [hr.at_ k hkl] at hk1
      obtain ⟨j, hj, e⟩ := horb k
      rw [hk1] at e
      exact ⟨j, hj, Option.some.inj e⟩
    refine ⟨⟨hrb, fun hm => ?_⟩, fun i hi => ?_⟩
    · obtain ⟨l, hl, hpl⟩ := List.mem_flatten.1 hm
      obtain ⟨s, hs, rfl, hr', _⟩ := ringsF_mem2 p l hl
      obtain ⟨k, hk1⟩ := ring_back hn (show s < 19 by omega) hr' hpl
      obtain ⟨j, hj, e⟩ := horb k
      rw [hk1] at e
      have := (hk j hj).2.2
      have := Option.some.inj e
      omega
    · obtain ⟨j, hj, rfl⟩ := hway i hi
      have hs := pidx_spec (hoP j hj)
      rw [decide_eq_true_eq, ← rcount_rdN h hs.1, hs.2]
      exact (hk j hj).2.1
  · rintro ⟨⟨hrb, hfi⟩, hsh⟩
    have hon := (onRb_iff hn (show p < 19 by omega)).1 hrb
    have hend := hr.onR.1 hon
    have hmin := ring_min hn hp hrb hfi
    refine ⟨(way (nxT (tabOf xs)) p).length, fun k => sn ((orb (nxT (tabOf xs)) p k).getD 0), hr.pos, sn_nm p hp, ?_, fun k hk => ?_⟩
    · show sn ((orb (nxT (tabOf xs)) p (way (nxT (tabOf xs)) p).length).getD 0) = nm p
      rw [hend]; exact sn_nm p hp
    · have hk1 := hr.some_ hk
      have hmem : (way (nxT (tabOf xs)) p)[k] ∈ way (nxT (tabOf xs)) p := List.getElem_mem hk
      generalize (way (nxT (tabOf xs)) p)[k] = i at hk1 hmem
      have hi := ring_low hn (ring_all hn (show p < 19 by omega) hon i hmem)
      have hnx : ∃ j, nxT (tabOf xs) i = some j := by
        have := ring_all hn (show p < 19 by omega) hon i hmem
        obtain ⟨k', hk', e⟩ := this
        obtain ⟨k', rfl⟩ : ∃ m, k' = m + 1 := ⟨k' - 1, by omega⟩
        rw [show k' + 1 = 1 + k' by omega, orb_add] at e
        cases h1 : nxT (tabOf xs) i with
        | none => rw [show orb (nxT (tabOf xs)) i 1 = none by simp only [orb, Option.bind_some]; exact h1] at e; cases e
        | some j => exact ⟨j, rfl⟩
      obtain ⟨j, hj⟩ := hnx
      have hk2 : orb (nxT (tabOf xs)) p (k + 1) = some j := by simp only [orb, hk1, Option.bind_some]; exact hj
      refine ⟨?_, ?_, ?_⟩
      · show (sn ((orb (nxT (tabOf xs)) p k).getD 0), sn ((orb (nxT (tabOf xs)) p (k + 1)).getD 0)) ∈ _
        rw [hk1, hk2]
        show (sn i, sn j) ∈ _
        rw [sn_nm i hi]
        exact (next_busy h hj).2
      · show rdN _ (sn ((orb (nxT (tabOf xs)) p k).getD 0)) = 1
        rw [hk1]
        show rdN _ (sn i) = 1
        rw [sn_nm i hi, rcount_rdN h hi]
        have := hsh i hmem
        simpa using this
      · show p ≤ pidx (sn ((orb (nxT (tabOf xs)) p k).getD 0))
        rw [hk1]
        show p ≤ pidx (sn i)
        rw [sn_nm i hi, pidx_nm hi]
        exact hmin i hmem
theorem clo_closed {xs : List Mv} (h : MV xs) : cloN (busyF xs 9) = (closedB xs).length := by
  rw [closedB_count h]
  unfold cloN
  congr 1
  refine List.filter_congr fun p hp => ?_
  rw [Bool.eq_iff_iff, cloB_iff]
  exact clo_bridge h (List.mem_range.1 hp)
theorem wrB_stp (m : Mv) : wrB (stpM m) = m.1 := wrB_move 0 m.1 m.2 (by decide)
theorem wrL_stL (ms : List Mv) : wrL (stL ms) = ms.flatMap fun m => m.1.data.toList := by
  unfold wrL stL
  rw [List.flatMap_map]
  congr 1
theorem sp_byte {a : ByteArray} (h : isP a = true ∨ a = spT) : (116 ∈ a.data.toList ↔ a = spT) ∧ 117 ∉ a.data.toList := by
  rcases h with h | rfl
  · obtain ⟨p, hp, rfl⟩ := nm_of_isP h
    match p, hp with
    | 0, _ | 1, _ | 2, _ | 3, _ | 4, _ | 5, _ | 6, _ | 7, _ | 8, _ => decide +kernel
  · decide +kernel
theorem tcH_stL {ms : List Mv} (hm : ∀ m ∈ ms, isP m.1 = true ∨ m.1 = spT) : tcH (stL ms) 9 = ms.any (fun m => decide (m.1 = spT)) ∧ tcH (stL ms) 10 = false := by
  unfold tcH inTx
  rw [wrL_stL]
  constructor
  · rw [Bool.eq_iff_iff, decide_eq_true_eq, List.any_eq_true, List.mem_flatMap]
    constructor
    · rintro ⟨m, h1, h2⟩; exact ⟨m, h1, decide_eq_true ((sp_byte (hm m h1)).1.1 h2)⟩
    · rintro ⟨m, h1, h2⟩; exact ⟨m, h1, (sp_byte (hm m h1)).1.2 (of_decide_eq_true h2)⟩
  · rw [decide_eq_false_iff_not, List.mem_flatMap]
    rintro ⟨m, h1, h2⟩
    exact (sp_byte (hm m h1)).2 h2
/-- what FnOrderMoves asks of the answers -/
theorem ord_facts {xs : List Mv} (h : MV xs) : ((ordM xs).length : Int) = cioI xs ∧ cioI xs = ((busyF xs 9).length : Int) + ((closedB xs).length : Int) ∧
    pmH (tcB (stL (ordM xs))) ⟨#[116]⟩ = needB xs ∧ pmH (tcB (stL (ordM xs))) ⟨#[117]⟩ = false := by
  have hm : mvalid xs = true := by simpa [mvalid] using h
  have hw := ordF_count 19 (busyF xs 9) (busyF_Wt h) (busyF_Srt xs) busy_mu
  have hv := ordM_valid h
  have ho := ordF_ok 19 (busyF xs 9) (busyF_Wt h)
  have ht := tcH_stL (ms := ordF 19 (busyF xs 9)) fun m hm => (ho m hm).1
  have e : tcB (stL (ordM xs)) = pickB cellsL (tcH (stL (ordM xs))) 11 := by unfold tcB; rw [hv]; rfl
  refine ⟨?_, ?_, ?_, ?_⟩
  · rw [ordM_yes h, hw.1, clo_closed h]
    unfold cioI; rw [if_pos hm]; omega
  · unfold cioI; rw [if_pos hm]
  · rw [e, ordM_yes h]
    have := pmH_pick (tcH (stL (ordF 19 (busyF xs 9)))) 9 (by omega)
    rw [ht.1, hw.2, clo_closed h] at this
    exact this
  · rw [e, ordM_yes h]
    have := pmH_pick (tcH (stL (ordF 19 (busyF xs 9)))) 10 (by omega)
    rw [ht.2] at this
    exact this
end Go.PW
namespace Go.PF
/-- where a walk is after so many steps -/
def itN (g : Nat → Nat) : Nat → Nat → Nat
  | 0, i => i
  | t + 1, i => g (itN g t i)
theorem itN_add (g : Nat → Nat) (s : Nat) : ∀ t i, itN g (s + t) i = itN g t (itN g s i)
  | 0, _ => rfl
  | t + 1, i => by show g (itN g (s + t) i) = g _; rw [itN_add g s t i]
theorem itN_mul {g : Nat → Nat} {m i : Nat} (h : itN g m i = i) : ∀ q, itN g (m * q) i = i
  | 0 => rfl
  | q + 1 => by rw [Nat.mul_succ, itN_add, itN_mul h q, h]
theorem itN_mod {g : Nat → Nat} {m i : Nat} (h : itN g m i = i) (t : Nat) : itN g t i = itN g (t % m) i := by
  have e := Nat.div_add_mod t m
  have h2 := itN_add g (m * (t / m)) (t % m) i
  rw [e, itN_mul h] at h2
  exact h2
/-- i is the first one, by κ, of a ring whose members all have P -/
def RngI (g : Nat → Nat) (P : Nat → Prop) (κ : Nat → Nat) (i : Nat) : Prop := ∃ m, 0 < m ∧ itN g m i = i ∧ ∀ t, t < m → P (itN g t i) ∧ κ i ≤ κ (itN g t i)
theorem arg_min (φ : Nat → Nat) : ∀ m, 0 < m → ∃ t, t < m ∧ ∀ s, s < m → φ t ≤ φ s
  | 0, h => absurd h (Nat.lt_irrefl 0)
  | 1, _ => ⟨0, by omega, fun s hs => (show s = 0 from Nat.lt_one_iff.1 hs) ▸ Nat.le_refl _⟩
  | m + 2, _ => by
    obtain ⟨t, ht, h⟩ := arg_min φ (m + 1) (by omega)
    by_cases hc : φ t ≤ φ (m + 1)
    · exact ⟨t, by omega, fun s hs => by
        by_cases e : s = m + 1
        · subst e; exact hc
        · exact h s (by omega)⟩
    · exact ⟨m + 1, by omega, fun s hs => by
        by_cases e : s = m + 1
        · subst e; exact Nat.le_refl _
        · have := h s (by omega); omega⟩
theorem RngI.other {g : Nat → Nat} {P : Nat → Prop} {κ : Nat → Nat} {i : Nat} (κ' : Nat → Nat) (h : RngI g P κ i) : ∃ t, RngI g P κ' (itN g t i) := by
  obtain ⟨m, h0, hm, hp⟩ := h
  obtain ⟨t, ht, hmin⟩ := arg_min (fun s => κ' (itN g s i)) m h0
  refine ⟨t, m, h0, ?_, fun s hs => ?_⟩
  · rw [← itN_add, Nat.add_comm, itN_add, hm]
  · have hlt := Nat.mod_lt (t + s) h0
    rw [← itN_add, itN_mod hm (t + s)]
    exact ⟨(hp _ hlt).1, hmin _ hlt⟩
theorem RngI.le {g : Nat → Nat} {P : Nat → Prop} {κ : Nat → Nat} {i i' t t' : Nat} (h : RngI g P κ i) (h' : RngI g P κ i') (e : itN g t i = itN g t' i') : κ i' ≤ κ i := by
  obtain ⟨m, h0, hm, hp⟩ := h
  obtain ⟨m', h0', hm', hp'⟩ := h'
  have hle : t ≤ m * (t + 1) := Nat.le_trans (Nat.le_succ t) (Nat.le_mul_of_pos_left _ h0)
  have e1 : i = itN g ((t' + (m * (t + 1) - t)) % m') i' := by
    rw [← itN_mod hm', itN_add, ← e, ← itN_add, Nat.add_sub_cancel' hle, itN_mul hm]
  have := (hp' _ (Nat.mod_lt (t' + (m * (t + 1) - t)) h0')).2
  rw [← e1] at this
  exact this
noncomputable def dcd (p : Prop) : Bool := @decide p (Classical.propDecidable p)
theorem dcd_iff (p : Prop) : dcd p = true ↔ p := by
  unfold dcd
  exact @decide_eq_true_iff p (Classical.propDecidable p)
theorem map_on_nodup {α β : Type _} {f : α → β} {l : List α} (h : l.Nodup) (hf : ∀ a ∈ l, ∀ b ∈ l, f a = f b → a = b) : (l.map f).Nodup := by
  refine List.pairwise_map.2 (h.imp_of_mem ?_)
  intro a b ha hb hne e
  exact hne (hf a ha b hb e)
theorem rng_le {g : Nat → Nat} {P : Nat → Prop} {n : Nat} (hP : ∀ x, P x → x < n) {κ : Nat → Nat} (hk : ∀ x y, x < n → y < n → κ x = κ y → x = y) (κ' : Nat → Nat) :
    ((List.range n).filter fun i => dcd (RngI g P κ i)).length ≤ ((List.range n).filter fun i => dcd (RngI g P κ' i)).length := by
  have hlt : ∀ {κ i}, RngI g P κ i → i < n := fun h => by
    obtain ⟨m, h0, _, hp⟩ := h
    exact hP _ (hp 0 h0).1
  have hex : ∀ i, ∃ j, RngI g P κ i → (RngI g P κ' j ∧ ∃ t, j = itN g t i) := fun i => by
    by_cases h : RngI g P κ i
    · obtain ⟨t, ht⟩ := h.other κ'
      exact ⟨_, fun _ => ⟨ht, t, rfl⟩⟩
    · exact ⟨0, fun h2 => absurd h2 h⟩
  obtain ⟨F, hF⟩ := Classical.axiomOfChoice hex
  have hmem : ∀ {κ i}, i ∈ (List.range n).filter (fun i => dcd (RngI g P κ i)) ↔ RngI g P κ i := fun {κ i} => by
    rw [List.mem_filter, dcd_iff, List.mem_range]
    exact ⟨fun h => h.2, fun h => ⟨hlt h, h⟩⟩
  have h1 := Go.PM.nodup_le (((List.range n).filter fun i => dcd (RngI g P κ i)).map F) ((List.range n).filter fun i => dcd (RngI g P κ' i)) (map_on_nodup (List.Nodup.sublist List.filter_sublist List.nodup_range) fun a ha b hb e => by
      have ha := hmem.1 ha
      have hb := hmem.1 hb
      obtain ⟨_, t, ht⟩ := hF a ha
      obtain ⟨_, s, hs⟩ := hF b hb
      have e2 : itN g t a = itN g s b := by rw [← ht, ← hs, e]
      have l1 := ha.le hb e2
      have l2 := hb.le ha e2.symm
      exact hk a b (hlt ha) (hlt hb) (by omega)) (fun j hj => by
      obtain ⟨i, hi, rfl⟩ := List.mem_map.1 hj
      exact hmem.2 (hF i (hmem.1 hi)).1)
  rw [List.length_map] at h1
  exact h1
theorem rng_eq {g : Nat → Nat} {P : Nat → Prop} {n : Nat} (hP : ∀ x, P x → x < n) {κ κ' : Nat → Nat} (hk : ∀ x y, x < n → y < n → κ x = κ y → x = y) (hk' : ∀ x y, x < n → y < n → κ' x = κ' y → x = y) :
    ((List.range n).filter fun i => dcd (RngI g P κ i)).length = ((List.range n).filter fun i => dcd (RngI g P κ' i)).length :=
  Nat.le_antisymm (rng_le hP hk κ') (rng_le hP hk' κ)
end Go.PF
namespace Go.Proofs.YthgcoocgeekdnaaDoor
open Go.PM Go.PD Go.PF Go.PW Go.RowKit Go.Lib
/-- which parameter an argument is -/
def gN (ps az : List UInt8) (i : Nat) : Nat := ps.idxOf (az.getD i 0)
def rdI (g : Nat → Nat) (n j : Nat) : Nat := ((List.range n).filter fun i => decide (g i = j ∧ i ≠ j)).length
def okI (g : Nat → Nat) (n : Nat) (x : Nat) : Prop := x < n ∧ g x < n ∧ g x ≠ x ∧ rdI g n x = 1
def kN (ps : List UInt8) (x : Nat) : Nat := pidx (ch (ps.getD x 0))
theorem getD_lt {l : List UInt8} {i : Nat} (h : i < l.length) : l.getD i 0 = l[i] := by
  rw [List.getD_eq_getElem?_getD, List.getElem?_eq_getElem h]; rfl
theorem getD_inj {l : List UInt8} (hn : l.Nodup) {i j : Nat} (hi : i < l.length) (hj : j < l.length) (e : l.getD i 0 = l.getD j 0) : i = j := by
  rw [getD_lt hi, getD_lt hj] at e
  exact (List.getElem_inj hn).1 e
theorem gN_is {ps az : List UInt8} (hn : ps.Nodup) {i j : Nat} (hj : j < ps.length) : gN ps az i = j ↔ az.getD i 0 = ps.getD j 0 := by
  unfold gN
  constructor
  · intro e
    have hm : ps.idxOf (az.getD i 0) < ps.length := by omega
    have := List.getElem_idxOf hm
    rw [← this, getD_lt hj]
    congr 1
  · intro e
    rw [e, getD_lt hj]
    exact List.Nodup.idxOf_getElem hn j hj
theorem kN_inj {ps : List UInt8} (hp : parOk ps = true) (x y : Nat) (hx : x < ps.length) (hy : y < ps.length) (e : kN ps x = kN ps y) : x = y := by
  unfold kN at e
  have h1 := par_place hp _ (List.getElem_mem hx)
  have h2 := par_place hp _ (List.getElem_mem hy)
  rw [getD_lt hx, getD_lt hy] at e
  have e2 : ch ps[x] = ch ps[y] := by rw [← (pidx_spec h1).2, e, (pidx_spec h2).2]
  exact (List.getElem_inj (par_nodup hp)).1 (ch_inj e2)
theorem kN_nm {ps : List UInt8} (hp : parOk ps = true) {x : Nat} (hx : x < ps.length) : kN ps x < 9 ∧ nm (kN ps x) = ch (ps.getD x 0) := by
  have h1 := par_place hp _ (List.getElem_mem hx)
  unfold kN
  rw [getD_lt hx]
  exact pidx_spec h1
theorem clM_mem {ps az : List UInt8} (h : az.length = ps.length) (m : Mv) : m ∈ clM ps az ↔ ∃ i, i < ps.length ∧ m = (ch (ps.getD i 0), ch (az.getD i 0)) := by
  rw [clM_rng h, List.mem_map]
  constructor
  · rintro ⟨i, hi, rfl⟩; exact ⟨i, List.mem_range.1 hi, rfl⟩
  · rintro ⟨i, hi, rfl⟩; exact ⟨i, List.mem_range.2 hi, rfl⟩
theorem busy_perm {xs : List Mv} (h : MV xs) : (busyF xs 9).Perm (busyM xs) := by
  refine (List.perm_ext_iff_of_nodup ?_ ?_).2 fun m => ?_
  · unfold busyF
    refine map_on_nodup (List.Nodup.sublist List.filter_sublist List.nodup_range) fun a ha b hb e => ?_
    have ha := List.mem_range.1 (List.mem_filter.1 ha).1
    have hb := List.mem_range.1 (List.mem_filter.1 hb).1
    have e1 : nm a = nm b := congrArg (fun m : Mv => m.1) e
    rw [← pidx_nm ha, e1, pidx_nm hb]
  · exact List.Nodup.sublist List.filter_sublist (map_inj_nodup h.2)
  · rw [busyF_mem h]
    unfold busyM
    rw [List.mem_filter, decide_eq_true_eq]
theorem rdI_is {ps az : List UInt8} (h : clOk ps az = true) {y : Nat} (hy : y < ps.length) : rdN (busyF (clM ps az) 9) (ch (ps.getD y 0)) = rdI (gN ps az) ps.length y := by
  have hn := par_nodup (cl_par h)
  have e1 : rdN (busyF (clM ps az) 9) (ch (ps.getD y 0)) = rdN (busyM (clM ps az)) (ch (ps.getD y 0)) := ((busy_perm (cl_MV h)).map (fun m : Mv => m.2)).count_eq _
  rw [e1]
  unfold rdN busyM rdI
  rw [clM_rng (cl_len h), List.filter_map, List.map_map, List.count_eq_countP, List.countP_map, List.countP_eq_length_filter, List.filter_filter]
  congr 1
  refine List.filter_congr fun i hi => ?_
  have hi := List.mem_range.1 hi
  show (ch (az.getD i 0) == ch (ps.getD y 0) && decide (ch (ps.getD i 0) ≠ ch (az.getD i 0))) = _
  rw [Bool.eq_iff_iff, Bool.and_eq_true, beq_iff_eq, decide_eq_true_eq, decide_eq_true_eq, gN_is hn hy]
  constructor
  · rintro ⟨a, b⟩
    exact ⟨ch_inj a, fun e => b (by rw [a, e])⟩
  · rintro ⟨a, b⟩
    exact ⟨by rw [a], fun e => b (getD_inj hn hi hy ((ch_inj e).trans a))⟩
/-- a closed ring, told by which parameters the arguments are -/
theorem clo_rng {ps az : List UInt8} (h : clOk ps az = true) {i : Nat} (hi : i < ps.length) : Clo (busyF (clM ps az) 9) (kN ps i) ↔ RngI (gN ps az) (okI (gN ps az) ps.length) (kN ps) i := by
  have hp := cl_par h
  have hn := par_nodup hp
  have hV := cl_MV h
  constructor
  · rintro ⟨m, o, h0, o0, om, hk⟩
    rw [(kN_nm hp hi).2] at o0 om
    have hsrc : ∀ t, t < m → ∃ x, x < ps.length ∧ o t = ch (ps.getD x 0) ∧ o (t + 1) = ch (az.getD x 0) ∧ o t ≠ o (t + 1) := fun t ht => by
      obtain ⟨h1, h2⟩ := (busyF_mem hV _).1 (hk t ht).1
      obtain ⟨x, hx, e⟩ := (clM_mem (cl_len h) _).1 h1
      exact ⟨x, hx, congrArg (fun m : Mv => m.1) e, congrArg (fun m : Mv => m.2) e, h2⟩
    have hall : ∀ t, t ≤ m → itN (gN ps az) t i < ps.length ∧ o t = ch (ps.getD (itN (gN ps az) t i) 0) := by
      intro t
      induction t with
      | zero => intro _; exact ⟨hi, o0⟩
      | succ t ih =>
        intro ht
        obtain ⟨k1, k2⟩ := ih (by omega)
        obtain ⟨x, hx, e1, e2, _⟩ := hsrc t (by omega)
        have ex : x = itN (gN ps az) t i := getD_inj hn hx k1 (ch_inj (e1.symm.trans k2))
        have hnext : ∃ y, y < ps.length ∧ o (t + 1) = ch (ps.getD y 0) := by
          by_cases hc : t + 1 < m
          · obtain ⟨y, hy, e3, _⟩ := hsrc (t + 1) hc
            exact ⟨y, hy, e3⟩
          · have : t + 1 = m := by omega
            rw [this]; exact ⟨i, hi, om⟩
        obtain ⟨y, hy, e3⟩ := hnext
        have eg : gN ps az (itN (gN ps az) t i) = y := by
          rw [gN_is hn hy, ← ex]
          exact ch_inj (e2.symm.trans e3)
        show gN ps az _ < _ ∧ _ = ch (ps.getD (gN ps az _) 0)
        rw [eg]; exact ⟨hy, e3⟩
    refine ⟨m, h0, getD_inj hn (hall m (Nat.le_refl _)).1 hi (ch_inj ((hall m (Nat.le_refl _)).2.symm.trans om)), fun t ht => ?_⟩
    obtain ⟨k1, k2⟩ := hall t (by omega)
    obtain ⟨k3, k4⟩ := hall (t + 1) (by omega)
    obtain ⟨_, _, _, _, hne⟩ := hsrc t ht
    obtain ⟨_, hr, hm⟩ := hk t ht
    refine ⟨⟨k1, k3, fun e => hne ?_, ?_⟩, ?_⟩
    · rw [k2, k4]
      have e' : itN (gN ps az) (t + 1) i = itN (gN ps az) t i := e
      rw [e']
    · rw [← rdI_is h k1, ← k2]; exact hr
    · rw [k2] at hm; exact hm
  · rintro ⟨m, h0, hm, hk⟩
    refine ⟨m, fun t => ch (ps.getD (itN (gN ps az) t i) 0), h0, (kN_nm hp hi).2.symm, ?_, fun t ht => ?_⟩
    · show ch (ps.getD (itN (gN ps az) m i) 0) = _
      rw [hm, (kN_nm hp hi).2]
    · obtain ⟨⟨k1, k2, k3, k4⟩, k5⟩ := hk t ht
      refine ⟨(busyF_mem hV _).2 ⟨(clM_mem (cl_len h) _).2 ⟨_, k1, ?_⟩, fun e => ?_⟩, ?_, k5⟩
      · have := (gN_is (az := az) (i := itN (gN ps az) t i) hn k2).1 rfl
        show (ch (ps.getD _ 0), ch (ps.getD (gN ps az _) 0)) = _
        rw [this]
      · exact k3 (getD_inj hn k1 k2 (ch_inj e)).symm
      · rw [rdI_is h k1]; exact k4
theorem closed_is {ps az : List UInt8} (h : clOk ps az = true) : (closedB (clM ps az)).length = ((List.range ps.length).filter fun i => dcd (RngI (gN ps az) (okI (gN ps az) ps.length) (kN ps) i)).length := by
  have hp := cl_par h
  have hV := cl_MV h
  have hm1 : ∀ p, p ∈ (List.range 9).filter (fun s => firstR (nxT (tabOf (clM ps az))) s && shut1 (tabOf (clM ps az)) (way (nxT (tabOf (clM ps az))) s)) ↔ p < 9 ∧ Clo (busyF (clM ps az) 9) p := fun p => by
    rw [List.mem_filter, List.mem_range]
    exact ⟨fun x => ⟨x.1, (clo_bridge hV x.1).2 x.2⟩, fun x => ⟨x.1, (clo_bridge hV x.1).1 x.2⟩⟩
  have hm2 : ∀ p, p ∈ ((List.range ps.length).filter fun i => dcd (RngI (gN ps az) (okI (gN ps az) ps.length) (kN ps) i)).map (kN ps) ↔ p < 9 ∧ Clo (busyF (clM ps az) 9) p := fun p => by
    rw [List.mem_map]
    constructor
    · rintro ⟨i, hi, rfl⟩
      rw [List.mem_filter, List.mem_range, dcd_iff] at hi
      exact ⟨(kN_nm hp hi.1).1, (clo_rng h hi.1).2 hi.2⟩
    · rintro ⟨h9, hc⟩
      obtain ⟨m, o, h0, o0, _, hk⟩ := id hc
      obtain ⟨x, hx, e⟩ := (clM_mem (cl_len h) _).1 ((busyF_mem hV _).1 (hk 0 h0).1).1
      have e1 : o 0 = ch (ps.getD x 0) := congrArg (fun m : Mv => m.1) e
      have ep : kN ps x = p := by unfold kN; rw [← e1, o0, pidx_nm h9]
      refine ⟨x, ?_, ep⟩
      rw [List.mem_filter, List.mem_range, dcd_iff]
      exact ⟨hx, (clo_rng h hx).1 (by rw [ep]; exact hc)⟩
  have n1 : ((List.range 9).filter (fun s => firstR (nxT (tabOf (clM ps az))) s && shut1 (tabOf (clM ps az)) (way (nxT (tabOf (clM ps az))) s))).Nodup := List.Nodup.sublist List.filter_sublist List.nodup_range
  have n2 : (((List.range ps.length).filter fun i => dcd (RngI (gN ps az) (okI (gN ps az) ps.length) (kN ps) i)).map (kN ps)).Nodup := map_on_nodup (List.Nodup.sublist List.filter_sublist List.nodup_range) fun a ha b hb e =>
    kN_inj hp a b (List.mem_range.1 (List.mem_filter.1 ha).1) (List.mem_range.1 (List.mem_filter.1 hb).1) e
  have e2 : ((List.range ps.length).filter fun i => dcd (RngI (gN ps az) (okI (gN ps az) ps.length) (kN ps) i)).length = (((List.range ps.length).filter fun i => dcd (RngI (gN ps az) (okI (gN ps az) ps.length) (kN ps) i)).map (kN ps)).length := (List.length_map _).symm
  rw [closedB_count hV, e2]
  exact Nat.le_antisymm (Go.PM.nodup_le _ _ n1 fun a ha => (hm2 a).2 ((hm1 a).1 ha)) (Go.PM.nodup_le _ _ n2 fun a ha => (hm1 a).2 ((hm2 a).1 ha))
theorem sdH_is {ps az : List UInt8} (h : clOk ps az = true) {i : Nat} (hi : i < ps.length) : sdH ps az i = decide (gN ps az i = i) := by
  unfold sdH
  rw [decide_eq_decide, gN_is (par_nodup (cl_par h)) hi]
  exact eq_comm
/-- what a call costs, told by which parameters the arguments are -/
theorem cost_ix {ps az : List UInt8} (h : clOk ps az = true) : cioI (clM ps az) = (((List.range ps.length).filter fun i => !decide (gN ps az i = i)).length : Int) + (((List.range ps.length).filter fun i => dcd (RngI (gN ps az) (okI (gN ps az) ps.length) id i)).length : Int) := by
  rw [cost_is h, closed_is h, rng_eq (P := okI (gN ps az) ps.length) (n := ps.length) (κ := kN ps) (κ' := id) (fun x hx => hx.1) (kN_inj (cl_par h)) (fun x y _ _ e => e)]
  have e : (List.range ps.length).filter (fun i => !sdH ps az i) = (List.range ps.length).filter (fun i => !decide (gN ps az i = i)) :=
    List.filter_congr fun i hi => by rw [sdH_is h (List.mem_range.1 hi)]
  rw [e]
/-- the pattern of arguments -/
def patC (ps : List UInt8) (c : UInt8) : UInt8 := if c ∈ ps then regsL.getD (ps.idxOf c) 0 else 48
def patL (ps az : List UInt8) : List UInt8 := az.map (patC ps)
theorem abc_idx {n j : Nat} (hn : n ≤ 4) (hj : j < n) : (abc n).idxOf (regsL.getD j 0) = j := by
  have h4 : j < 4 := by omega
  match n, hn, j, h4, hj with
  | 0, _, 0, _, h | 0, _, 1, _, h | 0, _, 2, _, h | 0, _, 3, _, h => exact absurd h (by omega)
  | 1, _, 0, _, _ | 2, _, 0, _, _ | 3, _, 0, _, _ | 4, _, 0, _, _ | 2, _, 1, _, _ | 3, _, 1, _, _ | 4, _, 1, _, _ | 3, _, 2, _, _ | 4, _, 2, _, _ | 4, _, 3, _, _ => decide +kernel
  | 1, _, 1, _, h | 1, _, 2, _, h | 1, _, 3, _, h | 2, _, 2, _, h | 2, _, 3, _, h | 3, _, 3, _, h => exact absurd h (by omega)
theorem abc_no {n : Nat} (hn : n ≤ 4) : (abc n).idxOf 48 = n ∧ (abc n).idxOf 0 = n ∧ (abc n).length = n := by
  match n, hn with
  | 0, _ | 1, _ | 2, _ | 3, _ | 4, _ => decide +kernel
theorem abc_mem {n j : Nat} (hn : n ≤ 4) (hj : j < n) : regsL.getD j 0 ∈ abc n := by
  have h := abc_idx hn hj
  by_cases hm : regsL.getD j 0 ∈ abc n
  · exact hm
  · rw [List.idxOf_eq_length hm, (abc_no hn).2.2] at h; omega
theorem pat_ok {ps az : List UInt8} (h : clOk ps az = true) : clOk (abc ps.length) (patL ps az) = true := by
  obtain ⟨h1, h4⟩ := par_len (cl_par h)
  obtain ⟨k1, k2⟩ := abc_par h1 h4
  refine cl_mk k1 (by rw [k2]; unfold patL; rw [List.length_map, cl_len h]) fun c hc => ?_
  obtain ⟨d, _, rfl⟩ := List.mem_map.1 hc
  unfold patC
  split
  · rename_i hm
    have := abc_mem h4 (List.idxOf_lt_length_of_mem hm)
    have := par_place k1 _ this
    unfold isS; rw [this]; rfl
  · decide +kernel
theorem pat_g {ps az : List UInt8} (h : clOk ps az = true) (i : Nat) : gN (abc ps.length) (patL ps az) i = gN ps az i := by
  obtain ⟨h1, h4⟩ := par_len (cl_par h)
  unfold gN patL
  by_cases hi : i < az.length
  · have e1 : (az.map (patC ps)).getD i 0 = patC ps az[i] := by
      rw [getD_lt (by rw [List.length_map]; exact hi), List.getElem_map]
    rw [e1, getD_lt hi]
    unfold patC
    split
    · rename_i hm; exact abc_idx h4 (List.idxOf_lt_length_of_mem hm)
    · rename_i hm; rw [(abc_no h4).1, List.idxOf_eq_length hm]
  · have e1 : (az.map (patC ps)).getD i 0 = 0 := by
      rw [List.getD_eq_getElem?_getD, List.getElem?_eq_none (by rw [List.length_map]; omega)]; rfl
    have e2 : az.getD i 0 = 0 := by
      rw [List.getD_eq_getElem?_getD, List.getElem?_eq_none (by omega)]; rfl
    rw [e1, e2, (abc_no h4).2.1]
    have : (0 : UInt8) ∉ ps := fun hm => by
      have := par_reg (cl_par h) _ hm
      revert this; decide
    rw [List.idxOf_eq_length this]
/-- a call costs what its pattern costs -/
theorem cost_pat {ps az : List UInt8} (h : clOk ps az = true) : cioI (clM (abc ps.length) (patL ps az)) = cioI (clM ps az) := by
  obtain ⟨h1, h4⟩ := par_len (cl_par h)
  rw [cost_ix h, cost_ix (pat_ok h), (abc_no h4).2.2]
  have e : gN (abc ps.length) (patL ps az) = gN ps az := funext (pat_g h)
  rw [e]
end Go.Proofs.YthgcoocgeekdnaaDoor
namespace Go.PF
open Go.PM Go.Lib
theorem indexByte_idx (l : List UInt8) (c : UInt8) : indexByte l c = if c ∈ l then (l.idxOf c : Int) else -1 := by
  induction l with
  | nil => rfl
  | cons b l ih =>
    unfold indexByte
    rw [ih, List.idxOf_cons]
    by_cases h : b = c
    · subst h; simp
    · have h1 : (b == c) = false := by simpa using h
      have h2 : (c = b) = False := by simp; exact fun e => h e.symm
      rw [h1]
      simp only [Bool.false_eq_true, if_false, List.mem_cons, h2, false_or]
      by_cases h3 : c ∈ l
      · rw [if_pos h3, if_pos h3, if_neg (by simp), show (bif false then 0 else l.idxOf c + 1) = l.idxOf c + 1 from rfl]; omega
      · rw [if_neg h3, if_neg h3]; rfl
end Go.PF
namespace Go.Proofs.YthgcoocgeekdnaaDoor
open Go.RowKit Go.PM Go.PD Go.PF Go.PW Go.Lib Go.Maps
attribute [local go_sem] Oper.semAt_some
def patB (ps az : List UInt8) : ByteArray := ⟨(patL ps az).toArray⟩
theorem patB_step (ps : List UInt8) (az : List UInt8) (k : Nat) (hk : k < az.length) : patB ps (az.take (k + 1)) = patB ps (az.take k) ++ ⟨#[patC ps az[k]]⟩ := by
  unfold patB patL
  apply ByteArray.ext
  rw [take_snoc az k hk, List.map_append, ByteArray.data_append]
  simp
theorem patB_size (ps az : List UInt8) : (patB ps az).size = az.length := by
  show (patL ps az).toArray.size = _
  rw [List.size_toArray]; unfold patL; rw [List.length_map]
theorem reg_ext (j : Nat) (hj : j < 6) : (ByteArray.mk #[97, 98, 99, 100, 101, 102]).extract j (j + 1) = ⟨#[regsL.getD j 0]⟩ := extract_one ⟨#[97, 98, 99, 100, 101, 102]⟩ j hj
set_option maxRecDepth 100000 in
set_option maxHeartbeats 1600000 in
theorem pattern_c (ps az : ByteArray) (hp : ps.size ≤ 4) (ha : az.size ≤ 4) (w : World) :
    Calls Tryd.prog 71 #[.string ps, .string az] w fun e w' => e = .returned (.string (patB ps.data.toList az.data.toList)) ∧ w = w' := by
  have HI : Hid (∀ (c : UInt8) (W : World), Calls Tryd.prog 87 #[.string ps, .int .u8 c.toNat] W fun e w' => e = .returned (.int .i64 (if c ∈ ps.data.toList then (ps.data.toList.idxOf c : Int) else -1)) ∧ W = w') := fun c W =>
    (Tryd.strings_IndexByte ps c.toNat W).mono fun _ _ ⟨e1, e2⟩ => ⟨by
      rw [e1, ← indexByte_idx]
      have : ((c.toNat : Int)).toNat.toUInt8 = c := by simp
      rw [this], e2.symm⟩
  have HL : Hid (∀ c, c ∈ ps.data.toList → ps.data.toList.idxOf c < 4) := fun c hc => by
    have := List.idxOf_lt_length_of_mem hc
    rw [size_data] at this; omega
  have HX := Lib.hid (fun j hj => reg_ext j hj)
  have HC : Hid (∀ c, patC ps.data.toList c = if c ∈ ps.data.toList then regsL.getD (ps.data.toList.idxOf c) 0 else 48) := fun c => rfl
  obtain ⟨B, hB⟩ : ∃ B : Nat → ByteArray, ∀ k, patB ps.data.toList (az.data.toList.take k) = B k := ⟨_, fun _ => rfl⟩
  have HST : Hid (∀ k (hk : k < az.size), B (k + 1) = B k ++ ⟨#[patC ps.data.toList az[k]]⟩) := fun k hk => by rw [← hB, ← hB]; exact patB_step _ _ k (by rw [size_data]; exact hk)
  have HZ : Hid (∀ k, (B k).size ≤ 4) := fun k => by rw [← hB, patB_size, List.length_take, size_data]; omega
  have H0 : Hid (B 0 = ⟨#[]⟩) := (hB 0).symm
  have HF : Hid (B az.size = patB ps.data.toList az.data.toList) := by show _ = _; rw [← hB, List.take_of_length_le (by rw [size_data]; exact Nat.le_refl _)]
  clear hp hB
  generalize patB ps.data.toList az.data.toList = R at *
  generalize ps.data.toList = pl at *
  go_enter Tryd.func71, Tryd.ntmps71
  go_wp2
  go_loopw [5, 6, 7, 10] (fun o _ _ i wr => ∃ (k : Nat), k ≤ az.size ∧ i = .int .i64 k ∧ o = .string (B k) ∧ w = wr) (fun _ _ _ i _ => az.size - (RowKit.intOf i).toNat)
  case atStart => exact ⟨0, by omega, rfl, by rw [H0.out], rfl⟩
  case round =>
    obtain ⟨k, hk, rfl, rfl, rfl⟩ := hrel
    by_cases hlt : k < az.size
    · have i0 : (0 : Int) ≤ (k : Int) := by omega
      have i1 : (k : Int) < (az.size : Int) := by omega
      have hst := HST.out k hlt
      have hz := HZ.out k
      have hcc := HC.out az[k]
      have HIK := Lib.hid (HI.out az[k])
      have hl := HL.out az[k]
      generalize hc : az[k] = c at *
      obtain ⟨nx, HNX⟩ : ∃ nx, Hid (B (k + 1) = nx) := ⟨_, rfl⟩
      rw [HNX.out] at hst
      generalize B k = cur at *
      by_cases hm : c ∈ pl
      · have hl := hl hm
        rw [if_pos hm] at hcc
        have HIK : Hid (∀ W, Calls Tryd.prog 87 #[.string ps, .int .u8 c.toNat] W fun e w' => e = .returned (.int .i64 (pl.idxOf c : Int)) ∧ W = w') := fun W => by have := HIK.out W; rwa [if_pos hm] at this
        have hx := HX.out (pl.idxOf c) (by omega)
        rw [← hcc] at hx
        generalize pl.idxOf c = j at *
        generalize patC pl c = d at *
        have j0 : (0 : Int) ≤ (j : Int) := by omega
        have j1 : (j : Int) + 1 ≤ 6 := by omega
        have hone : (⟨#[d]⟩ : ByteArray).size = 1 := rfl
        have HS := Lib.hid hst
        clear hst hcc hm
        go_wp2_with (go_at_call 87; refine (HIK.out _).mono ?_; rintro e w' ⟨rfl, rfl⟩)
        go_roundw
        case rel => exact ⟨k + 1, by omega, by go_num, by rw [HNX.out, HS.out], trivial⟩
        case measure => simp [RowKit.intOf]; omega
      · rw [if_neg hm] at hcc
        have HIK : Hid (∀ W, Calls Tryd.prog 87 #[.string ps, .int .u8 c.toNat] W fun e w' => e = .returned (.int .i64 (-1)) ∧ W = w') := fun W => by have := HIK.out W; rwa [if_neg hm] at this
        have HS : Hid (nx = cur ++ ⟨#[48]⟩) := by rw [hcc] at hst; exact hst
        clear hst hcc hm
        go_wp2_with (go_at_call 87; refine (HIK.out _).mono ?_; rintro e w' ⟨rfl, rfl⟩)
        go_roundw
        case rel => exact ⟨k + 1, by omega, by go_num, by rw [HNX.out, HS.out]; rfl, trivial⟩
        case measure => simp [RowKit.intOf]; omega
    · have HK : Hid (k = az.size) := by show _ = _; omega
      have i1 : ¬ (k : Int) < (az.size : Int) := by omega
      go_wp2
      go_ret
      exact ⟨by rw [← HF.out, HK.out]; rfl, rfl⟩
/-- what a pattern costs -/
def pcN (s : ByteArray) : Int := cioI (clM (abc s.size) s.data.toList)
theorem pcN_pat {ps az : List UInt8} (h : clOk ps az = true) : pcN (patB ps az) = cioI (clM ps az) ∧ (patB ps az).size = ps.length ∧ 1 ≤ ps.length ∧ ps.length ≤ 4 ∧ coI (abc ps.length) (patB ps az).data.toList = cioI (clM ps az) := by
  have hz := patB_size ps az
  rw [cl_len h] at hz
  have hl : (patB ps az).data.toList = patL ps az := by simp [patB]
  refine ⟨?_, hz, (par_len (cl_par h)).1, (par_len (cl_par h)).2, ?_⟩
  · unfold pcN
    rw [hz, hl, cost_pat h]
  · unfold coI
    rw [hl, if_pos (pat_ok h), cost_pat h]
theorem law_str : Keyed Tryd.prog 9 := string_keyed Tryd.underlying9
theorem zero_int (w : World) : (zeroValue 3).run Tryd.prog w = .ok (.int .i64 0) w := by kernel_rfl
/-- block b is a map of at most n entries that has costs of patterns -/
def Kn (W : World) (b n : Nat) : Prop := ∃ D : DataW Unit, W.ownsMap Tryd.prog 9 (plainElem Tryd.prog 3) b n D ∧ ∀ s : ByteArray, Maps.has D (.string s.data.toList) = true → D.atKey (.string s.data.toList) (.lit (.int .i64 0)) = .lit (.int .i64 (pcN s))
theorem Kn.lt {W : World} {b n : Nat} (h : Kn W b n) : b < W.heap.size := by obtain ⟨D, h, _⟩ := h; exact h.lt
theorem Kn.mono {W : World} {b n m : Nat} (h : Kn W b n) (hm : n ≤ m) : Kn W b m := by obtain ⟨D, h, k⟩ := h; exact ⟨D, h.mono hm, k⟩
theorem Kn.kept {W W' : World} {b n : Nat} {row : Option Nat} (h : Kn W b n) (hg : W.grownBy W' row) (hne : some b ≠ row) : Kn W' b n := by obtain ⟨D, h, k⟩ := h; exact ⟨D, h.kept hg hne, k⟩
theorem Kn.below {W W' : World} {b n : Nat} (h : Kn W b n) (hb : Below W.heap.size W W') : Kn W' b n := h.kept (grown_below hb none) (by simp)
theorem Kn.drew {W : World} {b n : Nat} (h : Kn W b n) : Kn W.drew b n := h
theorem Kn.obj {W : World} {b n : Nat} (h : Kn W b n) : ∃ o : Obj, W.heap[b]? = some o ∧ o.isCells = false := by
  obtain ⟨D, ⟨es, clock, hb, _⟩, _⟩ := h
  exact ⟨_, hb, rfl⟩
theorem Kn.made (W : World) : Kn (W.alloc (.map #[] 0)) W.heap.size 0 := ⟨.map [], World.ownsMap_made _ _ _ _, fun s h => by cases h⟩
theorem str_inj {s t : ByteArray} (h : s.data.toList = t.data.toList) : s = t := ByteArray.ext (Array.toList_inj.1 h)
theorem Kn.put {W' : World} {b n : Nat} {D : DataW Unit} {s : ByteArray} (h : ∀ s : ByteArray, Maps.has D (.string s.data.toList) = true → D.atKey (.string s.data.toList) (.lit (.int .i64 0)) = .lit (.int .i64 (pcN s)))
    (hD : IsMap D) (hk : WideAt.IsKeyLit (.string s.data.toList)) (ho : W'.ownsMap Tryd.prog 9 (plainElem Tryd.prog 3) b n (D.put (.string s.data.toList) (.lit (.int .i64 (pcN s))))) : Kn W' b n := by
  refine ⟨_, ho, fun t ht => ?_⟩
  by_cases e : t = s
  · subst e; exact atKey_put_same hD hk _ _
  · have hne : Lit.string t.data.toList ≠ .string s.data.toList := fun e2 => e (str_inj (Lit.string.inj e2))
    rw [has_put_other hne] at ht
    rw [atKey_put_other hne]
    exact h t ht
theorem u8_turn {W W' : World} {row : Option Nat} (h : U8w W) (hg : W.grownBy W' row) (hr : ∀ r, row = some r → ∃ o : Obj, W.heap[r]? = some o ∧ o.isCells = false) : U8w W' := by
  have key : ∀ {a : Addr} {v : Value}, W.cell? a = some v → W'.cell? a = some v := fun {a v} hc => by
    have hlt : a.block < W.heap.size := by
      rcases Nat.lt_or_ge a.block W.heap.size with h' | h'
      · exact h'
      · simp [World.cell?, Array.getElem?_eq_none h'] at hc
    have hb := hg.block a.block hlt (fun e => by
      obtain ⟨o, ho, hc2⟩ := hr a.block e.symm
      unfold World.cell? at hc
      rw [ho] at hc
      cases o <;> first | (cases hc2; done) | (cases hc; done))
    unfold World.cell? at hc ⊢
    rw [hb]; exact hc
  exact ⟨fun c hc => key (h.1 c hc), fun i hi => ⟨key (h.2 i hi).1, key (h.2 i hi).2⟩⟩
theorem turn_obj {W : World} {b n : Nat} (h : Kn W b n) : ∀ r, some b = some r → ∃ o : Obj, W.heap[r]? = some o ∧ o.isCells = false := fun r e => by cases e; exact h.obj
set_option maxRecDepth 100000 in
set_option maxHeartbeats 3200000 in
theorem cost_c (b n : Nat) (ps az : ByteArray) (h : clOk ps.data.toList az.data.toList = true) (w : World) (hT : U8w w) (hK : Kn w b n) (hn : n < maxLen) :
    Calls Tryd.prog 51 #[.map (some b), .string ps, .string az] w fun e w' => e = .returned (.int .i64 (cioI (clM ps.data.toList az.data.toList))) ∧ Kn w' b (n + 1) ∧ w.grownBy w' (some b) := by
  have hl4 := (par_len (cl_par h)).2
  have hla := cl_len h
  rw [size_data] at hl4
  rw [size_data, size_data] at hla
  have HP := Lib.hid (pattern_c ps az hl4 (by omega) w)
  obtain ⟨k1, k2, k3, k4, k5⟩ := pcN_pat h
  rw [size_data] at k2 k3 k4 k5
  have HCC : Hid (∀ W, U8w W → Calls Tryd.prog 18 #[.string ((⟨#[97, 98, 99, 100, 101, 102]⟩ : ByteArray).extract 0 ps.size), .string (patB ps.data.toList az.data.toList)] W fun e w' => e = .returned (.int .i64 (cioI (clM ps.data.toList az.data.toList))) ∧ Below W.heap.size W w') := fun W hW => by
    have := imCallCost_c ((⟨#[97, 98, 99, 100, 101, 102]⟩ : ByteArray).extract 0 ps.size) (patB ps.data.toList az.data.toList) (by rw [ByteArray.size_extract]; omega) (by omega) W hW
    have e : ((⟨#[97, 98, 99, 100, 101, 102]⟩ : ByteArray).extract 0 ps.size).data.toList = abc ps.size := by
      have : ∀ m, m ≤ 4 → ((⟨#[97, 98, 99, 100, 101, 102]⟩ : ByteArray).extract 0 m).data.toList = abc m := fun m hm => by
        match m, hm with
        | 0, _ | 1, _ | 2, _ | 3, _ | 4, _ => decide +kernel
      exact this _ k4
    rw [e, k5] at this
    exact this
  have hr := cio_range (clM ps.data.toList az.data.toList)
  have hwf : (Lit.int .i64 (cioI (clM ps.data.toList az.data.toList))).wf = true := WalkArith.wf_i64 (by omega)
  clear k5 hla h
  rw [← k1] at hwf HCC hr
  rw [← k1]
  clear k1
  generalize patB ps.data.toList az.data.toList = q at *
  obtain ⟨D, hown, hD⟩ := hK
  have hkey : keyOf Tryd.prog 9 (.string q) = some (.string q.data.toList) := Go.WideMaps.keyOf_string_mk Tryd.underlying9 (by unfold maxLen; omega)
  have hkl : WideAt.IsKeyLit (.string q.data.toList) := trivial
  have HPUT := Lib.hid (fun (w1 : World) (ho : w1.ownsMap Tryd.prog 9 (plainElem Tryd.prog 3) b (n + 1) (D.put (.string q.data.toList) (.lit (.int .i64 (pcN q))))) => Kn.put hD hown.isMap hkl ho)
  have HGOT := Lib.hid (hD q)
  have HKN : Hid (∀ W', w.grownBy W' none → W'.ownsMap Tryd.prog 9 (plainElem Tryd.prog 3) b n D) := fun W' hg => hown.kept hg (by simp)
  have HKK : Hid (Kn w b (n + 1)) := ⟨D, hown.mono (Nat.le_succ _), hD⟩
  clear hD
  have l0 : (0 : Int) ≤ (q.size : Int) := by omega
  have l1 : (q.size : Int) ≤ 6 := by omega
  have l2 : (q.size : Int) ≤ 4 := by omega
  rw [← k2] at HCC
  clear k2 k3 k4 hl4
  generalize pcN q = c0 at *
  cases hh : Maps.has D (.string q.data.toList) with
  | true =>
    have hat0 := HGOT.out hh
    go_enter Tryd.func51, Tryd.ntmps51
    go_wp2_with fail
    refine HP.out.mono ?_
    rintro e w' ⟨rfl, rfl⟩
    go_wp2_with (first | (at_lookup; refine wpList_lookup_own_ok_int _ rfl _ _ 44 rfl 9 3 .i64 law_str Tryd.underlying44 Tryd.underlying3 (zero_int _) b n D rfl hown _ _ rfl hkey ?_; intro c hat hwc; rw [hh]) | go_in)
    go_ret
    have e : c = c0 := by rw [hat0] at hat; injection hat with h1; injection h1 with h2 h3; exact h3.symm
    exact ⟨by rw [e]; rfl, HKK.out, grown_refl _ _⟩
  | false =>
    go_enter Tryd.func51, Tryd.ntmps51
    go_wp2_with fail
    refine HP.out.mono ?_
    rintro e w' ⟨rfl, rfl⟩
    go_wp2_with (first | (at_lookup; refine wpList_lookup_own_ok_int _ rfl _ _ 44 rfl 9 3 .i64 law_str Tryd.underlying44 Tryd.underlying3 (zero_int _) b n D rfl hown _ _ rfl hkey ?_; intro c hat hwc; rw [hh]) | (go_at_call 18; refine (HCC.out _ hT).mono ?_; rintro e w2 ⟨rfl, hb2⟩; have hown2 := HKN.out _ (grown_below hb2 none)) | (at_mapUpdate; refine wpList_mapUpdate_own _ rfl _ _ _ 44 rfl 9 3 law_str Tryd.underlying44 _ b n D rfl hown2 hn _ _ _ rfl rfl hkey _ [] (plainElem_int Tryd.underlying3 hwf) ?_; intro w1 hown1 hgrow1) | go_in)
    go_ret
    exact ⟨rfl, HPUT.out _ hown1, (grown_below hb2 (some b)).trans hgrow1⟩
set_option maxRecDepth 100000 in
set_option maxHeartbeats 1600000 in
theorem total_c (b n : Nat) (ps : ByteArray) (cs : List ByteArray) (v : Value) (w : World) (hT : U8w w) (hK : Kn w b n) (hx : RdT w v cs) (h5 : cs.length ≤ 5) (hc : ∀ c ∈ cs, clOk ps.data.toList c.data.toList = true) (hn : n + 5 < maxLen) :
    Calls Tryd.prog 34 #[.map (some b), .string ps, v] w fun e w' => e = .returned (.int .i64 (totI ps.data.toList cs)) ∧ Kn w' b (n + 5) ∧ U8w w' ∧ w.grownBy w' (some b) := by
  obtain ⟨A, cap, rfl, hn0, hc0, hcell⟩ := hx.open
  clear hx
  have HM := Lib.hid (fun k (hk : k < cs.length) m W hT hK hm => cost_c b m ps cs[k] (hc _ (List.getElem_mem hk)) W hT hK hm)
  have HT : Hid (∀ k (hk : k < cs.length), totI ps.data.toList (cs.take (k + 1)) = totI ps.data.toList (cs.take k) + cioI (clM ps.data.toList cs[k].data.toList)) := fun k hk => by rw [take_snoc cs k hk, totI_snoc]
  have HR := Lib.hid (fun k => totI_range ps.data.toList (cs.take k))
  have HCR := Lib.hid (fun k (hk : k < cs.length) => cio_range (clM ps.data.toList cs[k].data.toList))
  have H0 : Hid (totI ps.data.toList (cs.take 0) = 0) := rfl
  have HF : Hid (totI ps.data.toList (cs.take cs.length) = totI ps.data.toList cs) := by show _ = _; rw [List.take_length]
  have hob := hK.obj
  clear hc
  go_enter Tryd.func34, Tryd.ntmps34
  go_wp2
  go_loopw [7, 9, 12] (fun o _ i wr => ∃ (k : Nat), k ≤ cs.length ∧ i = .int .i64 k ∧ o = .int .i64 (totI ps.data.toList (cs.take k)) ∧ Kn wr b (n + k) ∧ U8w wr ∧ w.grownBy wr (some b)) (fun _ _ i _ => cs.length - (RowKit.intOf i).toNat)
  case atStart => exact ⟨0, by omega, rfl, by rw [H0.out], hK, hT, grown_refl _ _⟩
  case round =>
    obtain ⟨k, hk, rfl, rfl, hKk, hTk, hg⟩ := hrel
    by_cases hlt : k < cs.length
    · obtain ⟨b1, off, rfl, hbl, hc1⟩ := hcell k hlt
      have hd1 : wr.cell? ⟨b1, off + k, none⟩ = some (.string cs[k]) := by
        have hne : b1 ≠ b := fun e => by
          obtain ⟨o, ho, hcl⟩ := hob
          subst e
          unfold World.cell? at hc1
          rw [ho] at hc1
          cases o <;> first | (cases hcl; done) | (cases hc1; done)
        have := hg.block b1 hbl (fun e => hne (Option.some.inj e))
        unfold World.cell? at hc1 ⊢
        rw [this]; exact hc1
      have HMK := Lib.hid (HM.out k hlt (n + k) wr hTk hKk (by omega))
      have HTK := Lib.hid (HT.out k hlt)
      have hr := HR.out k
      have hcr := HCR.out k hlt
      have htl : (cs.take k).length ≤ 5 := by rw [List.length_take]; omega
      have i0 : (0 : Int) ≤ (k : Int) := by omega
      have i1 : (k : Int) < (cs.length : Int) := by omega
      have HOB := Lib.hid (turn_obj hKk)
      clear hc1 hcell hob
      generalize totI ps.data.toList (cs.take k) = cur at *
      generalize cioI (clM ps.data.toList cs[k].data.toList) = ci at *
      generalize cs[k] = q at *
      have i2 : -6 ≤ cur + ci := by omega
      have i3 : cur + ci ≤ 10000 := by omega
      clear hr hcr
      go_wp2_with fail
      refine HMK.out.mono ?_
      rintro e w2 ⟨rfl, hK2, hg2⟩
      have hT2 := u8_turn hTk hg2 HOB.out
      go_wp2
      go_roundw
      case rel => exact ⟨k + 1, by omega, by go_num, by rw [HTK.out], hK2, hT2, hg.trans hg2⟩
      case measure => simp [RowKit.intOf]; omega
    · have HK : Hid (k = cs.length) := by show _ = _; omega
      have i1 : ¬ (k : Int) < (cs.length : Int) := by omega
      go_wp2
      go_ret
      exact ⟨by rw [← HF.out, HK.out]; rfl, hKk.mono (by omega), hTk, hg⟩
end Go.Proofs.YthgcoocgeekdnaaDoor
namespace Go.PF
open Go.PM Go.RowKit Go.PD
theorem IterK.wide {α : Type} {Pr : World → Prop} {n m : Nat} {P : Program} {gf : Nat} {mk : Value → Array Value} {encs : α → Array Value} {xs : List α} (h : IterK Pr Fence.wide n P gf mk encs xs) : IterK Pr Fence.wide m P gf mk encs xs := by
  intro l J Jx W hJ hJx hP hY h0
  exact callsIn_wide.2 (callsIn_wide.1 (h l J Jx W hJ hJx hP (fun pre x A a b c => yieldAt_wide (hY pre x A a b c)) h0))
def dfK (D : Nat) : Deferred := { target := .collected D, args := #[] }
/-- marks that loops over functions have left, from block B on -/
def MarksK (B : Nat) (ds : List Nat) (A : World) : Prop := ds.Nodup ∧ ∀ D ∈ ds, B ≤ D ∧ A.heap[D]? = some (.deferred (some []))
theorem MarksK.nil (B : Nat) (A : World) : MarksK B [] A := ⟨List.nodup_nil, fun D hD => by cases hD⟩
theorem MarksK.lt {B : Nat} {ds : List Nat} {A : World} (h : MarksK B ds A) : ∀ D ∈ ds, D < A.heap.size := fun D hD => (Array.getElem?_eq_some_iff.1 (h.2 D hD).2).1
theorem MarksK.keep {B : Nat} {ds : List Nat} {A A' : World} (h : MarksK B ds A) (hk : KeepsNew B A A') : MarksK B ds A' :=
  ⟨h.1, fun D hD => ⟨(h.2 D hD).1, hk.block (h.2 D hD).1 (h.2 D hD).2⟩⟩
theorem MarksK.turn {B N : Nat} {ds : List Nat} {A A' : World} {row : Option Nat} (h : MarksK B ds A) (hlt : ∀ D ∈ ds, D < N) (hg : A.grownBy A' row) (hr : ∀ r, row = some r → N ≤ r) : MarksK B ds A' :=
  ⟨h.1, fun D hD => ⟨(h.2 D hD).1, (hg.block D (Array.getElem?_eq_some_iff.1 (h.2 D hD).2).1 (fun e => by have := hr D e.symm; have := hlt D hD; omega)).trans (h.2 D hD).2⟩⟩
theorem MarksK.add {B D : Nat} {ds : List Nat} {A : World} (h : MarksK B ds A) (hB : B ≤ D) (hn : D ∉ ds) (hd : A.heap[D]? = some (.deferred (some []))) : MarksK B (D :: ds) A :=
  ⟨List.nodup_cons.2 ⟨hn, h.1⟩, fun E hE => by
    rcases List.mem_cons.1 hE with rfl | hE
    · exact ⟨hB, hd⟩
    · exact h.2 E hE⟩
/-- at the end the marks are taken up one by one -/
theorem leaves_J {β : Type} {F : Fence} {n : Nat} {P : Program} {fn : Func} {tmps : Array Value} {R : Ending → World → Prop} {B : Nat} {J : β → World → Prop} (hJ : OwnFrom B J) (s : β) : ∀ (ds : List Nat) (A : World), MarksK B ds A → J s A →
    (∀ A' : World, J s A' → LeavesInM F n P fn tmps R [] .returning A') → LeavesInM F n P fn tmps R (ds.map dfK) .returning A
  | [], A, _, hs, h => h A hs
  | D :: ds, A, hM, hs, h => by
    have hn := List.nodup_cons.1 hM.1
    have hD := hM.2 D (List.mem_cons_self ..)
    refine ⟨by simp, .inl ⟨D, _, rfl, run_takeDeferred hD.2, ?_⟩⟩
    refine leaves_J hJ s ds _ ⟨hn.2, fun E hE => ⟨(hM.2 E (List.mem_cons_of_mem _ hE)).1, ?_⟩⟩ (hJ.putObj _ hs hD.1 hD.2 rfl) h
    rw [World.putObj_heap_other (fun e => hn.1 (by rw [← e]; exact hE))]
    exact (hM.2 E (List.mem_cons_of_mem _ hE)).2
/-- parameters of so many registers behind some, as texts -/
def arrB : Nat → ByteArray → List ByteArray
  | 0, ps => [ps]
  | d + 1, ps => regsL.flatMap fun c => if c ∈ ps.data.toList then [] else arrB d (ps ++ ⟨#[c]⟩)
def arrKB (d : Nat) (ps : ByteArray) (k : Nat) : List ByteArray := (regsL.take k).flatMap fun c => if c ∈ ps.data.toList then [] else arrB d (ps ++ ⟨#[c]⟩)
theorem arrKB_zero (d : Nat) (ps : ByteArray) : arrKB d ps 0 = [] := rfl
theorem arrKB_full (d : Nat) (ps : ByteArray) : arrKB d ps 6 = arrB (d + 1) ps := rfl
theorem arrKB_step (d : Nat) (ps : ByteArray) (k : Nat) (hk : k < 6) : arrKB d ps (k + 1) = arrKB d ps k ++ if regsL.getD k 0 ∈ ps.data.toList then [] else arrB d (ps ++ ⟨#[regsL.getD k 0]⟩) := by
  have hl : k < regsL.length := hk
  unfold arrKB
  rw [take_snoc _ k hl, List.flatMap_append, List.flatMap_singleton, List.getD_eq_getElem?_getD, List.getElem?_eq_getElem hl]
  rfl
theorem arrKB_pre (d : Nat) (ps : ByteArray) (k : Nat) : arrKB d ps k <+: arrB (d + 1) ps := by
  refine ⟨(regsL.drop k).flatMap fun c => if c ∈ ps.data.toList then [] else arrB d (ps ++ ⟨#[c]⟩), ?_⟩
  unfold arrKB
  rw [← List.flatMap_append, List.take_append_drop]; rfl
theorem arrB_map : ∀ (d : Nat) (ps : ByteArray), (arrB d ps).map (fun q => q.data.toList) = arrs d ps.data.toList
  | 0, ps => rfl
  | d + 1, ps => by
    show (regsL.flatMap _).map _ = regsL.flatMap _
    rw [List.map_flatMap]
    congr 1
    funext c
    by_cases h : c ∈ ps.data.toList
    · rw [if_pos h, if_pos h]; rfl
    · rw [if_neg h, if_neg h, arrB_map d]
      rw [ByteArray.data_append]; simp
end Go.PF
namespace Go.Proofs.YthgcoocgeekdnaaDoor
open Go.RowKit Go.PM Go.PD Go.PF Go.Lib
attribute [local go_sem] Oper.semAt_some

theorem arrangements_c (ps : ByteArray) (n : Int) (w : World) :
    Calls Tryd.prog 68 #[.string ps, .int .i64 n] w fun e w' => e = .returned (.func (.func 86) #[] #[.pointer (some ⟨w.heap.size, 0, none⟩), .pointer (some ⟨w.heap.size + 1, 0, none⟩)]) ∧ w' = (w.alloc (.cells #[.string ps] 41)).alloc (.cells #[.int .i64 n] 3) := by
  go_enter Tryd.func68, Tryd.ntmps68
  go_wp2
  go_ret
  exact ⟨by simp, rfl⟩
/-- the loop over the registers: k of them are behind it -/
def ArrR (b1 b2 l d : Nat) (ps : ByteArray) (J : List ByteArray → World → Prop) (W : World) (a : Act) (A : World) : Prop :=
  ∃ (k : Nat) (ds : List Nat) (n : Int) (u4 u5 u15 u16 u17 u18 u19 u20 u21 u22 u23 u24 u25 u26 u27 u28 u34 : Value),
    a = { tmps := #[.func (.yield l) #[] #[], .pointer (some ⟨b1, 0, none⟩), .pointer (some ⟨b2, 0, none⟩), .pointer (some ⟨W.heap.size, 0, none⟩), u4, u5, undef, .string ps, .int .i64 ps.size, .int .i64 n, .bool false, undef, undef, undef, .int .i64 k, u15, u16, u17, u18, u19, u20, u21, u22, u23, u24, u25, u26, u27, u28, undef, undef, undef, undef, undef, u34], defers := ds.map dfK } ∧
    k ≤ 6 ∧ J (arrKB d ps k) A ∧ At A W.heap.size 112 #[.func (.yield l) #[] #[]] ∧ MarksK W.heap.size ds A ∧ W.heap.size + 1 ≤ A.heap.size
set_option maxRecDepth 100000 in
set_option maxHeartbeats 3200000 in
theorem arr_iter0 (ps : ByteArray) (n : Nat) (hn : ps.size = n) (b1 b2 m : Nat) :
    IterK (fun A => At A b1 41 #[.string ps] ∧ At A b2 3 #[.int .i64 n]) Fence.wide m Tryd.prog 86 (fun y => #[] ++ #[y] ++ #[.pointer (some ⟨b1, 0, none⟩), .pointer (some ⟨b2, 0, none⟩)]) (fun q : ByteArray => #[.string q]) (arrB 0 ps) := by
  refine IterK.wide (n := 10) ?_
  intro l J Jx W hJ hJx hP hY h0
  obtain ⟨hA1, hA2⟩ := hP _ _ h0
  have c1 : W.cell? ⟨b1, 0, none⟩ = some (.string ps) := hA1.cell 0
  have c2 : W.cell? ⟨b2, 0, none⟩ = some (.int .i64 n) := hA2.cell 0
  have hl1 := hA1.lt
  have hl2 := hA2.lt
  have t1 : ((ps.size : Int) == (n : Int)) = true := by simp; omega
  have hJ0 : J [] (W.alloc (.cells #[.func (.yield l) #[] #[]] 112)) := hJ.alloc _ h0
  have hyl := yieldAt_wide (m := 9) (hY [] ps _ hJ0 (by simp [World.size_alloc]) ⟨[], rfl⟩)
  obtain ⟨fn, tmps, assign, body, hy, hR⟩ := hyl
  change CallsIn _ _ _ _ #[.func (.yield l) #[] #[], .pointer (some ⟨b1, 0, none⟩), .pointer (some ⟨b2, 0, none⟩)] W _
  refine callsIn_of_wp_marks Tryd.func86 rfl trivial ?_ rfl
  simp only [Tryd.ntmps86, List.size_toArray, List.length_cons, List.length_nil, Nat.reduceAdd, Nat.reduceSub, Array.replicate_succ, Array.replicate_zero, List.push_toArray, List.append_toArray, List.nil_append, List.cons_append]
  clear hP hA1 hA2 hY h0 hJ0
  gi_wp2
  refine RoundIn.mono hR ?_
  rintro e A (⟨rfl, h1, _⟩ | ⟨rfl, h1, _⟩)
  · gi_wp2
    exact ⟨_, results_none rfl _ _ _, ⟨_, rfl⟩, .inl h1⟩
  · gi_wp2
    exact ⟨_, results_none rfl _ _ _, ⟨_, rfl⟩, .inr ⟨_, List.prefix_refl _, h1⟩⟩
set_option maxRecDepth 100000 in
set_option maxHeartbeats 6400000 in
theorem arr_iter : ∀ (d : Nat) (ps : ByteArray) (n : Nat), ps.size + d = n → n ≤ 6 → ∀ (b1 b2 m : Nat),
    IterK (fun A => At A b1 41 #[.string ps] ∧ At A b2 3 #[.int .i64 n]) Fence.wide m Tryd.prog 86 (fun y => #[] ++ #[y] ++ #[.pointer (some ⟨b1, 0, none⟩), .pointer (some ⟨b2, 0, none⟩)]) (fun q : ByteArray => #[.string q]) (arrB d ps) := by
  intro d
  induction d with
  | zero => exact fun ps n hn _ b1 b2 m => arr_iter0 ps n hn b1 b2 m
  | succ d ih =>
    intro ps n hn h6 b1 b2 m
    obtain ⟨N, hN⟩ : ∃ N : Nat, 10 ≤ N := ⟨10, Nat.le_refl _⟩
    refine IterK.wide (n := N) ?_
    intro l J Jx W hJ hJx hP hY h0
    obtain ⟨hA1, hA2⟩ := hP _ _ h0
    have c1 : W.cell? ⟨b1, 0, none⟩ = some (.string ps) := hA1.cell 0
    have c2 : W.cell? ⟨b2, 0, none⟩ = some (.int .i64 n) := hA2.cell 0
    have hl1 := hA1.lt
    have hl2 := hA2.lt
    have t1 : ((ps.size : Int) == (n : Int)) = false := by simp; omega
    have HCN : Hid (∀ (c : UInt8) (V : World), Calls Tryd.prog 66 #[.string ps, .string ⟨#[c]⟩] V fun e w' => e = .returned (.bool (decide (c ∈ ps.data.toList))) ∧ V = w') := fun c V =>
      (Tryd.strings_Contains_one ps c V).mono fun _ _ ⟨e1, e2⟩ => ⟨by rw [e1]; congr 2; simp only [indexByte_mem], e2.symm⟩
    change CallsIn _ _ _ _ #[.func (.yield l) #[] #[], .pointer (some ⟨b1, 0, none⟩), .pointer (some ⟨b2, 0, none⟩)] W _
    refine callsIn_of_wp_marks Tryd.func86 rfl trivial ?_ rfl
    simp only [Tryd.ntmps86, List.size_toArray, List.length_cons, List.length_nil, Nat.reduceAdd, Nat.reduceSub, Array.replicate_succ, Array.replicate_zero, List.push_toArray, List.append_toArray, List.nil_append, List.cons_append]
    have hI0 : ArrR b1 b2 l d ps J W { tmps := #[.func (.yield l) #[] #[], .pointer (some ⟨b1, 0, none⟩), .pointer (some ⟨b2, 0, none⟩), .pointer (some ⟨W.heap.size, 0, none⟩), undef, undef, undef, .string ps, .int .i64 ps.size, .int .i64 n, .bool false, undef, undef, undef, .int .i64 (0 : Nat), undef, undef, undef, undef, undef, undef, undef, undef, undef, undef, undef, undef, undef, undef, undef, undef, undef, undef, undef, undef], defers := [] } (W.alloc (.cells #[.func (.yield l) #[] #[]] 112)) :=
      ⟨0, [], n, undef, undef, undef, undef, undef, undef, undef, undef, undef, undef, undef, undef, undef, undef, undef, undef, undef, rfl, by omega, hJ.alloc _ h0, At.new _ _ _, MarksK.nil _ _, by simp [World.size_alloc]⟩
    clear hA1 hA2 h0
    gi_wp2
    refine wpIn_loop (fun a A => ArrR b1 b2 l d ps J W a A) (fun a _ => 6 - (RowKit.intOf (a.tmps.getD 14 undef)).toNat) hI0 ?_
    clear hI0 c1 c2
    rintro a A ⟨k, ds, nz, u4, u5, u15, u16, u17, u18, u19, u20, u21, u22, u23, u24, u25, u26, u27, u28, u34, rfl, hk, hj, hY0, hM, hs⟩
    by_cases hlt : k < 6
    · obtain ⟨hA1, hA2⟩ := hP _ _ hj
      have c1 : A.cell? ⟨b1, 0, none⟩ = some (.string ps) := hA1.cell 0
      have c2 : A.cell? ⟨b2, 0, none⟩ = some (.int .i64 n) := hA2.cell 0
      have i0 : (0 : Int) ≤ (k : Int) := by omega
      have i1 : (k : Int) < 6 := by omega
      have i2 : (k : Int) + 1 ≤ 6 := by omega
      have hx := reg_ext k hlt
      have hst := arrKB_step d ps k hlt
      have hpre := arrKB_pre d ps (k + 1)
      generalize regsL.getD k 0 = c at *
      have HC := Lib.hid (HCN.out c)
      have hone : (⟨#[c]⟩ : ByteArray).size = 1 := rfl
      by_cases hin : c ∈ ps.data.toList
      · rw [if_pos hin, List.append_nil] at hst
        have hj2 : J (arrKB d ps (k + 1)) A := by rw [hst]; exact hj
        rw [decide_eq_true hin] at HC
        clear hst hj hpre
        gi_wp2_with fail
        refine ⟨trivial, fun _ => by omega, callsIn_wide.2 ((HC.out _).mono ?_)⟩
        rintro e w' ⟨rfl, rfl⟩
        gi_wp2
        exact ⟨⟨k + 1, ds, nz, _, _, _, _, _, _, _, _, _, _, _, _, _, _, _, _, _, by rfl, by omega, hj2, hY0, hM, hs⟩, by simp [RowKit.intOf]; omega⟩
      · rw [if_neg hin] at hst
        rw [hst] at hpre
        rw [decide_eq_false hin] at HC
        have hsz : ps.size + (⟨#[c]⟩ : ByteArray).size ≤ 6 := by rw [hone]; omega
        have HIT := Lib.hid (ih (ps ++ ⟨#[c]⟩) n (by rw [ByteArray.size_append]; omega) h6)
        gi_wp2_with fail
        refine ⟨trivial, fun _ => by omega, callsIn_wide.2 ((HC.out _).mono ?_)⟩
        rintro e w' ⟨rfl, rfl⟩
        gi_wp2_with fail
        refine ⟨trivial, fun _ => by omega, callsIn_wide.2 ((arrangements_c _ _ _).mono ?_)⟩
        rintro e W1 ⟨rfl, hW1⟩
        have hS1 : W1.heap.size = A.heap.size + 2 := by rw [hW1]; simp only [World.size_alloc]
        have hB1 : Below A.heap.size A W1 := by rw [hW1]; (repeat' (first | (with_reducible exact Below.refl _ _) | (with_reducible assumption) | (with_reducible refine Below.alloc ?_ ?_ _) | (with_reducible refine Below.drew ?_) | (with_reducible refine Below.setCell ?_ ?_ _) | (with_reducible exact Nat.le_refl _) | omega | ((repeat (first | rewrite [World.size_alloc] | rewrite [World.size_setCell] | rewrite [World.size_drew])); omega) | (simp; omega) | (simp; done)))
        have x1 : At W1 A.heap.size 41 #[.string (ps ++ ⟨#[c]⟩)] := by rw [hW1]; exact (At.new _ _ _).alloc _
        have x2 : At W1 (A.heap.size + 1) 3 #[.int .i64 n] := by
          rw [hW1]
          have := At.new (A.alloc (.cells #[.string (ps ++ ⟨#[c]⟩)] 41)) 3 #[.int .i64 n]
          rwa [World.size_alloc] at this
        have hj1 : J (arrKB d ps k) W1 := by rw [hW1]; exact hJ.alloc _ (hJ.alloc _ hj)
        have y1 := hY0.keep hB1
        have m1 := hM.keep (KeepsNew.below hB1)
        have hlm := hM.lt
        have hml1 : ∀ D ∈ ds, D < W1.heap.size := fun D hD => by have := hlm D hD; omega
        clear hW1 hj hY0 hM hA1 hA2 c1 c2 hlm hB1
        gi_wp2
        refine range_lawK1 (F := Fence.wide) (gf := 86) (lf := #[]) (lb := #[.pointer (some ⟨A.heap.size, 0, none⟩), .pointer (some ⟨A.heap.size + 1, 0, none⟩)]) rfl (by omega) rfl trivial (fun args w => rfl) (encs := fun q : ByteArray => #[.string q]) (xs := arrB d (ps ++ ⟨#[c]⟩))
          (HIT.out A.heap.size (A.heap.size + 1) _) (fun _ => rfl)
          (fun pre Z => J (arrKB d ps k ++ pre) Z ∧ At Z W.heap.size 112 #[.func (.yield l) #[] #[]] ∧ At Z A.heap.size 41 #[.string (ps ++ ⟨#[c]⟩)] ∧ At Z (A.heap.size + 1) 3 #[.int .i64 n] ∧ MarksK W.heap.size ds Z ∧ W1.heap.size ≤ Z.heap.size)
          (fun cc pre Z => cc = .ret ∧ Jx (arrKB d ps k ++ pre) Z ∧ MarksK W.heap.size ds Z) ?pr ?own ?ownx ?start ?a1 ?assign ?body ?done ?stop
        case pr => exact fun pre Z h => ⟨h.2.2.1, h.2.2.2.1⟩
        case own =>
          rintro pre Z Z' row ⟨g1, g2, g3, g4, g5, g6⟩ hg hr
          exact ⟨hJ _ _ _ _ g1 hg (fun r e => ⟨by have := (hr r e).1; omega, (hr r e).2⟩), at_turn g2 hg (fun r e => (hr r e).2), at_turn g3 hg (fun r e => (hr r e).2), at_turn g4 hg (fun r e => (hr r e).2), g5.turn hml1 hg (fun r e => (hr r e).1), Nat.le_trans g6 hg.size⟩
        case ownx =>
          rintro cc pre Z Z' row ⟨g0, g1, g5⟩ hg hr
          exact ⟨g0, hJx _ _ _ _ g1 hg (fun r e => ⟨by have := (hr r e).1; omega, (hr r e).2⟩), g5.turn hml1 hg (fun r e => (hr r e).1)⟩
        case start => exact ⟨by rw [List.append_nil]; exact hj1, y1, x1, x2, m1, Nat.le_refl _⟩
        case assign =>
          intro l2 q Z K hK
          gi_wp2
          exact hK
        case body =>
          rintro l2 pre q Z ⟨g1, g2, g3, g4, g5, g6⟩ hp hsz
          have hpq : (arrKB d ps k ++ pre) ++ [q] <+: arrB (d + 1) ps := by
            rw [List.append_assoc]
            exact ((List.prefix_append_right_inj _).2 hp).trans hpre
          have cY : Z.cell? ⟨W.heap.size, 0, none⟩ = some (.func (.yield l) #[] #[]) := g2.cell 0
          have hlY := g2.lt
          have hyl := yieldAt_wide (m := N - 1 - 1 - 1) (hY _ q Z g1 (by omega) hpq)
          rw [List.append_assoc] at hyl
          obtain ⟨fn, tmps, assign, body, hy, hR⟩ := hyl
          have HCONT : Hid (∀ Z', J (arrKB d ps k ++ (pre ++ [q])) Z' → KeepsNew W.heap.size Z Z' → (J (arrKB d ps k ++ (pre ++ [q])) Z' ∧ At Z' W.heap.size 112 #[.func (.yield l) #[] #[]] ∧ At Z' A.heap.size 41 #[.string (ps ++ ⟨#[c]⟩)] ∧ At Z' (A.heap.size + 1) 3 #[.int .i64 n] ∧ MarksK W.heap.size ds Z' ∧ W1.heap.size ≤ Z'.heap.size) ∧ KeepsNew W1.heap.size Z Z') := fun Z' h1 hk =>
            ⟨⟨h1, hk.block (Nat.le_refl _) g2, hk.block (by omega) g3, hk.block (by omega) g4, g5.keep hk, Nat.le_trans g6 hk.size⟩, hk.mono (by omega)⟩
          have HSTOP : Hid (∀ Z', Jx (arrKB d ps k ++ (pre ++ [q])) Z' → KeepsNew W.heap.size Z Z' → ((Code.ret : Code) = .ret ∧ Jx (arrKB d ps k ++ (pre ++ [q])) Z' ∧ MarksK W.heap.size ds Z') ∧ KeepsNew W1.heap.size Z Z') := fun Z' h1 hk =>
            ⟨⟨rfl, h1, g5.keep hk⟩, hk.mono (by omega)⟩
          clear g1 g2 g3 g4 g5 hp hpq hj1 y1 x1 x2 m1 hpre hst
          gi_wp2
          refine ⟨fun _ => by omega, RoundIn.mono hR ?_⟩
          rintro e Z' (⟨rfl, h1, hk2⟩ | ⟨rfl, h1, hk2⟩)
          · have fin := HCONT.out Z' h1 hk2
            clear hR hy h1 hk2
            gi_wp2
            exact fin
          · have fin := Lib.hid (HSTOP.out Z' h1 hk2)
            clear hR hy h1 hk2
            gi_wp2
            exact ⟨⟨rfl, fin.out.1.2⟩, fin.out.2⟩
        case done =>
          rintro D Z hD ⟨g1, g2, g3, g4, g5, g6⟩ hd
          rw [← hst] at g1
          have hDn : D ∉ ds := fun h => by have := hml1 D h; omega
          have hMD := g5.add (show W.heap.size ≤ D by omega) hDn hd
          clear hst hpre hj1 y1 x1 x2 m1
          gi_wp2
          exact ⟨⟨k + 1, D :: ds, nz, _, _, _, _, _, _, _, _, _, _, _, _, _, _, _, _, _, by rfl, by omega, g1, g2, hMD, by omega⟩, by simp [RowKit.intOf]; omega⟩
        case stop =>
          rintro D cc pre Z hD hp ⟨rfl, g1, g5⟩ hd
          have hDn : D ∉ ds := fun h => by have := hml1 D h; omega
          have hMD := g5.add (show W.heap.size ≤ D by omega) hDn hd
          have hpp : arrKB d ps k ++ pre <+: arrB (d + 1) ps := ((List.prefix_append_right_inj _).2 hp).trans hpre
          clear hst hpre hj1 y1 x1 x2 m1
          gi_wp2
          refine leaves_J hJx _ (D :: ds) Z hMD g1 ?_
          intro A' hA'
          exact ⟨_, results_none rfl _ _ _, ⟨_, rfl⟩, .inr ⟨_, hpp, hA'⟩⟩
    · have hk6 : k = 6 := by omega
      subst hk6
      have hJend : J (arrB (d + 1) ps) A := hj
      clear hj
      gi_wp2
      refine leaves_J hJ _ ds A hM hJend ?_
      intro A' hA'
      exact ⟨_, results_none rfl _ _ _, ⟨_, rfl⟩, .inl hA'⟩
end Go.Proofs.YthgcoocgeekdnaaDoor
namespace Go.PM
open Go.RowKit
section
variable {F : Fence} {m : Nat} {P : Program} {ops : Array Oper} {md : Region.Mode} {C D : World → Prop} {Q : Exit → Act → World → Prop}
/-- operations one behind the other, a fact kept till the first of the last ones -/
def wpListT (F : Fence) (m : Nat) (P : Program) (ops : Array Oper) (D : World → Prop) (Q : Exit → Act → World → Prop) (rest : List Oper) : List Oper → Act → World → Prop
  | [], a, w => D w ∧ wpListIn F m P ops Q rest a w
  | o :: l, a, w => D w ∧ Oper.wpIn F m P o a w (wpListT F m P ops D Q rest l) Q
theorem wpAnyT_of_list {rest : List Oper} (hne : rest ≠ []) : ∀ (l : List Oper) (k : Nat) (listed : Array Bool) (a : Act) (w : World), (∀ j, (l ++ rest)[j]? = ops[k + j]?) →
    Region.waitsFor md ops (k + l.length) 0 = true → (∀ o ∈ l, o.guard = none) → Region.seqB md ops (l.length + rest.length) k listed = true → wpListT F m P ops D Q rest l a w → wpAnyT F m P md ops D Q (l.length + rest.length) listed a w
  | [], k, listed, a, w, hl, hw0, _, hB, h => by
    obtain ⟨hD, hlist⟩ := h
    cases rest with
    | nil => exact absurd rfl hne
    | cons o r =>
      have hl' : ∀ j, (o :: r)[j]? = ops[k + j]? := fun j => by simpa using hl j
      have hB' : Region.seqB md ops (o :: r).length k listed = true := by simpa using hB
      have hany := wpAnyIn_of_seq' (md := md) (Q' := Q) (o :: r) k listed a w hl' hB' hlist
      simp only [List.length_cons, Region.seqB, Bool.and_eq_true, decide_eq_true_eq] at hB'
      simp only [List.length_nil, Nat.zero_add, List.length_cons] at hany ⊢
      refine ⟨hD, hany.1, fun j hj => ?_⟩
      rw [hB'.1] at hj
      have hjn : j = k := by simpa using hj
      subst hjn
      have hw0' : Region.waitsFor md ops j 0 = true := by simpa using hw0
      simp only [hw0', if_true]
      exact hany.2 _ (by rw [hB'.1]; simp)
  | o :: l, k, listed, a, w, hl, hw0, hg, hB, h => by
    obtain ⟨hD, hop⟩ := h
    have h0 : ops[k]? = some o := by simpa using (hl 0).symm
    have e : (o :: l).length + rest.length = (l.length + rest.length) + 1 := by simp only [List.length_cons]; omega
    rw [e] at hB ⊢
    simp only [Region.seqB, Bool.and_eq_true, decide_eq_true_eq] at hB
    refine ⟨hD, fun h1 => (by rw [hB.1] at h1; cases h1), fun j hj => ?_⟩
    rw [hB.1] at hj
    have hjk : j = k := by simpa using hj
    subst hjk
    have hwn : Region.wanted o (yielded ops a.tmps) = true := by simp [Region.wanted, hg o (by simp)]
    have hw : wpOpIn F m P ops Q j (wpListT F m P ops D Q rest l) a w := by
      unfold wpOpIn
      simp only [h0]
      rw [if_pos hwn]; exact hop
    refine wpOpIn_mono (fun a' w' h' => ?_) hw
    have hT := wpAnyT_of_list hne l (j + 1) (listed.setIfInBounds j true) a' w' (fun i => by have := hl (i + 1); simpa [Nat.add_assoc, Nat.add_comm 1 i] using this) (by
      have : j + 1 + l.length = j + (o :: l).length := by simp only [List.length_cons]; omega
      rw [this]; exact hw0) (fun o' ho' => hg o' (by simp [ho'])) hB.2 h'
    split
    · exact wpAnyT_any _ _ _ _ hT
    · exact hT
/-- what is asked of the region's form -/
def lateB2 (ops : Array Oper) (n k : Nat) : Bool :=
  Region.noSelect ops && decide (0 < n) && decide (n + k < ops.size) && sinkB1 .any ops n && Region.chainB .any ops n && Region.lexHead .any ops (ops.size - n) (n - 1) 1 ((Array.replicate ops.size false).setIfInBounds 0 true) &&
    Region.waitsFor .any ops (n + k) 0 && Region.free .any ops (Array.replicate ops.size false) 0 && (Region.ready .any ops (Array.replicate ops.size false)).contains 0
/-- A region that draws its order, whose first operation reads what only the last ones turn: it first, n - 1 quiet ones, k that turn something else, the others one behind the other. -/
theorem any_late2 {a : Act} {w : World} {l : List Oper} (n k : Nat) (hro : F.round = none) (hB : lateB2 l.toArray n k = true) (o0 : Oper) (h0 : l[0]? = some o0) (hgn : ∀ o ∈ (l.drop n).take k, o.guard = none) (v0 : Value)
    (hQ : ∀ c a w, Q (.panic c) (a.put o0.dst v0) w → Q (.panic c) a w) (hy : YieldsD P l.toArray D o0 v0 a) (hCD : ∀ w, C w → D w) (hC : C w)
    (h : wpQuietIn F m P l.toArray C (fun a' => ∀ w', C w' → wpListT F m P l.toArray D Q (l.drop (n + k)) ((l.drop n).take k) a' w') ((l.drop 1).take (n - 1)) (a.put o0.dst v0)) :
    wpAnyIn F m P .any l.toArray Q l.toArray.size (Array.replicate l.toArray.size false) a w := by
  simp only [lateB2, Bool.and_eq_true, decide_eq_true_eq] at hB
  obtain ⟨⟨⟨⟨⟨⟨⟨⟨hsel, hn0⟩, hn⟩, hs⟩, hc⟩, hlex⟩, hw0⟩, hf0⟩, hr0⟩ := hB
  have hn' : n + k < l.length := by simpa using hn
  have hr0' : 0 ∈ Region.ready .any l.toArray (Array.replicate l.toArray.size false) := by simpa using hr0
  have h0a : l.toArray[0]? = some o0 := by simpa using h0
  have inv0 : HeadInv .any l.toArray n (Array.replicate l.toArray.size false) :=
    ⟨by simp, fun j oj _ hl => (by rw [getD_replicate_false] at hl; cases hl), fun t _ ht => getD_in (by simpa using ht) (getD_replicate_false _ _)⟩
  have inv1 := inv0.set hr0' hn0
  have htl : ((l.drop 1).take (n - 1)).length = n - 1 := by simp; omega
  have H := wpAnyLQ1_lex (md := .any) (g := l.toArray.size - n) hsel hs hc (by omega) ((l.drop 1).take (n - 1)) 1 _ (a.put o0.dst v0) (by decide) (fun j hj => by
    have hj' : j < n - 1 := by rw [htl] at hj; exact hj
    simp [hj', Nat.add_comm]) (by rw [htl]; omega) inv1 (by rw [htl]; exact hlex) h
  have hlm : ((l.drop n).take k).length = k := by simp; omega
  have hlr : (l.drop (n + k)).length = l.length - (n + k) := by simp
  have hsz : ((l.drop n).take k).length + (l.drop (n + k)).length = l.toArray.size - n := by rw [hlm, hlr]; simp; omega
  have happ : (l.drop n).take k ++ l.drop (n + k) = l.drop n := by rw [← List.drop_drop]; exact List.take_append_drop _ _
  have T := wpAnyT_of_headQ (D := D) (Q := Q) (g := l.toArray.size - n) hro hCD (fun listed a' w' hw' hL => by
    obtain ⟨hseq, hLq⟩ := hL
    rw [← hsz] at hseq ⊢
    exact wpAnyT_of_list (fun e => by rw [e] at hlr; simp at hlr; omega) _ n listed a' w' (fun j => by rw [happ]; simp [List.getElem?_drop]) (by rw [hlm]; exact hw0) hgn hseq (hLq w' hw')) _ _ _ _ hC H
  rw [htl, show n - 1 + (l.toArray.size - n) = l.toArray.size - 1 by omega] at T
  have := late_first (md := .any) hro h0a (Region.noSelect_spec hsel) hQ (l.toArray.size - 1) _ a w (Region.free_spec h0a hf0) hr0' hy T
  rw [show l.toArray.size - 1 + 1 = l.toArray.size by omega] at this
  exact this
theorem region_late2_inRound {id r : Nat} {a : Act} {w : World} {l : List Oper} (n k : Nat) (hro : F.round = none) (hd : noDefer l.toArray = true) (hm : P.follows .mixedOrders = true) (hB : lateB2 l.toArray n k = true) (o0 : Oper) (h0 : l[0]? = some o0) (hgn : ∀ o ∈ (l.drop n).take k, o.guard = none) (v0 : Value)
    (hQ : ∀ c a w, Q (.panic c) (a.put o0.dst v0) w → Q (.panic c) a w) (hy : YieldsD P l.toArray D o0 v0 a) (hCD : ∀ w, C w → D w) (hC : C w.drew)
    (h : wpQuietIn F m P l.toArray C (fun a' => ∀ w', C w' → wpListT F m P l.toArray D Q (l.drop (n + k)) ((l.drop n).take k) a' w') ((l.drop 1).take (n - 1)) (a.put o0.dst v0)) :
    (Code.region id l.toArray true).wpIn (F.inRound r) m P Q a w :=
  region_inRound hro hd hm (any_late2 n k hro hB o0 h0 hgn v0 hQ hy hCD hC h)
theorem region_late2 {id : Nat} {a : Act} {w : World} {l : List Oper} (n k : Nat) (hro : F.round = none) (hm : P.follows .mixedOrders = true) (hB : lateB2 l.toArray n k = true) (o0 : Oper) (h0 : l[0]? = some o0) (hgn : ∀ o ∈ (l.drop n).take k, o.guard = none) (v0 : Value)
    (hQ : ∀ c a w, Q (.panic c) (a.put o0.dst v0) w → Q (.panic c) a w) (hy : YieldsD P l.toArray D o0 v0 a) (hCD : ∀ w, C w → D w) (hC : C w.drew)
    (h : wpQuietIn F m P l.toArray C (fun a' => ∀ w', C w' → wpListT F m P l.toArray D Q (l.drop (n + k)) ((l.drop n).take k) a' w') ((l.drop 1).take (n - 1)) (a.put o0.dst v0)) :
    (Code.region id l.toArray true).wpIn F m P Q a w :=
  wpIn_region_any hm (any_late2 n k hro hB o0 h0 hgn v0 hQ hy hCD hC h)
end
end Go.PM
namespace Go.PM
open Go.RowKit
def sinkB3 (md : Region.Mode) (ops : Array Oper) (m0 n : Nat) : Bool :=
  (List.range n).all fun i => decide (i < m0) || (List.range (n + 1)).any fun j => decide (i < j) && Region.waitsFor md ops j i
section
variable {P : Program} {ops : Array Oper} {md : Region.Mode}
theorem tail_waits3 {m0 n : Nat} {listed : Array Bool} (hs : sinkB3 md ops m0 n = true) (hc : Region.chainB md ops n = true) (hn : n < ops.size) (inv : HeadInv md ops n listed) :
    ∀ (d i : Nat), n - i = d → m0 ≤ i → i < n → listed.getD i true = false → ∀ t, n ≤ t → t ∉ Region.ready md ops listed := by
  intro d
  induction d using Nat.strongRecOn with
  | _ d ih =>
    intro i hd hi0 hi hun t ht hr
    obtain ⟨_, ot, hot, hall⟩ := mem_ready.1 hr
    have htlt : t < ops.size := (Array.getElem?_eq_some_iff.1 hot).1
    by_cases htn : t = n
    · subst htn
      have h1 := List.all_eq_true.1 hs i (List.mem_range.2 hi)
      rw [Bool.or_eq_true, decide_eq_true_eq] at h1
      have h1 := h1.resolve_left (by omega)
      obtain ⟨j, hj, hj2⟩ := List.any_eq_true.1 h1
      simp only [Bool.and_eq_true, decide_eq_true_eq] at hj2
      obtain ⟨oj, hoj, e, he, hb, hon⟩ := Region.waitsFor_spec hj2.2
      have hjle : j ≤ t := by have := List.mem_range.1 hj; omega
      by_cases hjt : j = t
      · subst hjt
        have : oj = ot := Option.some.inj (hoj.symm.trans hot)
        subst this
        have h2 := hall e he hb
        rw [hon, getD_both hun] at h2
        cases h2
      · cases hl : listed.getD j false with
        | true =>
          have h2 := inv.closed j oj hoj hl e he hb
          rw [hon, getD_both hun] at h2
          cases h2
        | false =>
          have hjs : j < listed.size := by rw [inv.size]; omega
          exact ih (t - j) (by omega) j rfl (by omega) (by omega) (getD_in hjs hl) t (Nat.le_refl _) hr
    · have h1 := List.all_eq_true.1 hc t (List.mem_range.2 htlt)
      simp only [Bool.or_eq_true, decide_eq_true_eq] at h1
      rcases h1 with h1 | h1
      · omega
      · obtain ⟨o', ho', e, he, hb, hon⟩ := Region.waitsFor_spec h1
        have : o' = ot := Option.some.inj (ho'.symm.trans hot)
        subst this
        have h2 := hall e he hb
        rw [hon, getD_both (inv.tail (t - 1) (by omega) (by omega))] at h2
        cases h2
end
section
variable {F : Fence} {m : Nat} {P : Program} {ops : Array Oper} {md : Region.Mode} {C D : World → Prop} {Q : Exit → Act → World → Prop}
theorem wpAnyLQ3_first {m0 n i : Nat} {oi : Oper} {v : Value} {L : Array Bool → Act → Prop} (hi : ops[i]? = some oi) (hsel : ∀ (j : Nat) (o : Oper) cs b, ops[j]? = some o → o.op ≠ .select cs b)
    (hi0 : m0 ≤ i) (hs : sinkB3 md ops m0 n = true) (hc : Region.chainB md ops n = true) (hn : n < ops.size) (hin : i < n)
    (hdone : ∀ listed a, L listed a → ∀ j ∈ Region.ready md ops listed, n ≤ j) :
    ∀ (f : Nat) (listed : Array Bool) (a : Act), HeadInv md ops n listed →
      (∀ j oj, ops[j]? = some oj → j ≠ i → listed.getD j true = false → (∀ e ∈ oj.after, Region.binds md e = true → e.on ≠ i) → oi.apart ops oj = true) →
      i ∈ Region.ready md ops listed → YieldsQuiet F m P ops C oi v a →
      wpAnyLQIn F m P md ops C n L f (listed.setIfInBounds i true) (a.put oi.dst v) → wpAnyLQIn F m P md ops C n L (f + 1) listed a := by
  intro f
  induction f with
  | zero =>
    intro listed a inv _ hr hy H
    have hun := (mem_ready.1 hr).1
    refine ⟨fun h => (by rw [h] at hr; cases hr), fun j hj => ?_⟩
    have hjn : j < n := by
      rcases Nat.lt_or_ge j n with h | h
      · exact h
      · exact absurd hj (tail_waits3 hs hc hn inv _ i rfl hi0 hin hun j h)
    refine ⟨hjn, ?_⟩
    by_cases hji : j = i
    · subst hji; exact hy.qOpIn hi H
    · have := hdone _ _ H j (ready_mono hj hji)
      omega
  | succ f ih =>
    intro listed a inv hfree hr hy H
    have hun := (mem_ready.1 hr).1
    refine ⟨fun h => (by rw [h] at hr; cases hr), fun j hj => ?_⟩
    have hjn : j < n := by
      rcases Nat.lt_or_ge j n with h | h
      · exact h
      · exact absurd hj (tail_waits3 hs hc hn inv _ i rfl hi0 hin hun j h)
    refine ⟨hjn, ?_⟩
    by_cases hji : j = i
    · subst hji; exact hy.qOpIn hi H
    · have h1 := (H.2 j (ready_mono hj hji)).2
      obtain ⟨hjun, oj, hoj, hall⟩ := mem_ready.1 hj
      have hnot : ∀ e ∈ oj.after, Region.binds md e = true → e.on ≠ i := fun e he hb heq => by
        have h1 := hall e he hb
        rw [heq, getD_both hun] at h1
        cases h1
      have h2 := qOpIn_put hoj (hfree j oj hoj hji hjun hnot) (fun cs b => hsel i oi cs b hi) (fun cs b => hsel j oj cs b hoj) hy h1
      have hfree' : ∀ k ok, ops[k]? = some ok → k ≠ i → (listed.setIfInBounds j true).getD k true = false →
          (∀ e ∈ ok.after, Region.binds md e = true → e.on ≠ i) → oi.apart ops ok = true := fun k ok hk hki hun hno => by
        refine hfree k ok hk hki ?_ hno
        by_cases hjk : j = k
        · subst hjk; exact hjun
        · rw [getD_set_ne true hjk] at hun; exact hun
      refine qOpIn_mono (fun a' h3 => ih (listed.setIfInBounds j true) a' (inv.set hj hjn) hfree' (ready_mono hr (Ne.symm hji)) h3.1 ?_) h2
      rw [Array.setIfInBounds_comm _ _ hji]
      exact h3.2

theorem wpAnyLQ3_lex {m0 n g : Nat} {Lq : Act → Prop} (hsel : Region.noSelect ops = true) (hs : sinkB3 md ops m0 n = true) (hc : Region.chainB md ops n = true) (hn : n < ops.size) :
    ∀ (l : List Oper) (k : Nat) (listed : Array Bool) (a : Act), m0 ≤ k → (∀ j, j < l.length → l[j]? = ops[k + j]?) → k + l.length = n → HeadInv md ops n listed →
    Region.lexHead md ops g l.length k listed = true → wpQuietIn F m P ops C Lq l a →
    wpAnyLQIn F m P md ops C n (fun listed' a' => Region.seqB md ops g n listed' = true ∧ Lq a') l.length listed a
  | [], k, listed, a, _, _, hk, _, hB, h => by
    have : k = n := by simpa using hk
    subst this
    exact ⟨by simpa [Region.lexHead] using hB, h⟩
  | o :: l, k, listed, a, hk0, hl, hk, inv, hB, h => by
    have h0 : ops[k]? = some o := by simpa using (hl 0 (by simp)).symm
    simp only [List.length_cons, Region.lexHead, Bool.and_eq_true] at hB
    obtain ⟨⟨hr, hf⟩, hB'⟩ := hB
    have hkn : k < n := by simp only [List.length_cons] at hk; omega
    have hr' : k ∈ Region.ready md ops listed := by simpa using hr
    have hst : qOpIn F m P ops C k (wpQuietIn F m P ops C Lq l) a := by unfold qOpIn; simp only [h0]; exact h
    obtain ⟨v, hy, hK⟩ := yieldsQuiet_of_qOpIn h0 hst
    exact wpAnyLQ3_first h0 (Region.noSelect_spec hsel) hk0 hs hc hn hkn (fun listed' a' hL => seqB_ready hL.1) l.length listed a inv (Region.free_spec h0 hf) hr' hy
      (wpAnyLQ3_lex hsel hs hc hn l (k + 1) _ _ (by omega) (fun j hj => by have := hl (j + 1) (by simp; omega); simpa [Nat.add_assoc, Nat.add_comm 1 j] using this) (by simp only [List.length_cons] at hk; omega) (inv.set hr' hkn) hB' hK)



/-- an operation that reads no memory and is waited for by whatever waits for number 0: it first -/
theorem late_pureT {oi : Oper} {v : Value} (i : Nat) (hro : F.round = none) (hi : ops[i]? = some oi) (hsel : ∀ (j : Nat) (o : Oper) cs b, ops[j]? = some o → o.op ≠ .select cs b)
    (hQ : ∀ c a w, Q (.panic c) (a.put oi.dst v) w → Q (.panic c) a w) (hww : ∀ j, Region.waitsFor md ops j 0 = true → Region.waitsFor md ops j i = true) :
    ∀ (fuel : Nat) (listed : Array Bool) (a : Act) (w : World),
      (∀ j oj, ops[j]? = some oj → j ≠ i → listed.getD j true = false → (∀ e ∈ oj.after, Region.binds md e = true → e.on ≠ i) → oi.apart ops oj = true) →
      i ∈ Region.ready md ops listed → YieldsD P ops (fun _ => True) oi v a →
      wpAnyT F m P md ops D Q fuel (listed.setIfInBounds i true) (a.put oi.dst v) w → wpAnyT F m P md ops D Q (fuel + 1) listed a w := by
  intro fuel
  induction fuel with
  | zero =>
    intro listed a w _ hr hy H
    refine ⟨H.1, fun h => (by rw [h] at hr; cases hr), fun j hj => ?_⟩
    by_cases hji : j = i
    · subst hji
      refine hy.op hro hi trivial ?_
      split
      · exact H.2
      · exact H
    · have := ready_mono hj hji
      rw [H.2.1] at this
      cases this
  | succ fuel ih =>
    intro listed a w hfree hr hy H
    refine ⟨H.1, fun h => (by rw [h] at hr; cases hr), fun j hj => ?_⟩
    by_cases hji : j = i
    · subst hji
      refine hy.op hro hi trivial ?_
      split
      · exact wpAnyT_any _ _ _ _ H
      · exact H
    · have h1 := H.2.2 j (ready_mono hj hji)
      obtain ⟨hjun, oj, hoj, hall⟩ := mem_ready.1 hj
      have hun0 := (mem_ready.1 hr).1
      have hnot : ∀ e ∈ oj.after, Region.binds md e = true → e.on ≠ i := fun e he hb heq => by
        have h1 := hall e he hb
        rw [heq, getD_both hun0] at h1
        cases h1
      have hnwi : Region.waitsFor md ops j i = false := by
        cases hwf : Region.waitsFor md ops j i with
        | false => rfl
        | true =>
          obtain ⟨o', ho', e, he, hb, hon⟩ := Region.waitsFor_spec hwf
          have : o' = oj := Option.some.inj (ho'.symm.trans hoj)
          subst this
          exact absurd hon (hnot e he hb)
      have hnw : Region.waitsFor md ops j 0 = false := by
        cases hwf : Region.waitsFor md ops j 0 with
        | false => rfl
        | true => rw [hww j hwf] at hnwi; cases hnwi
      have h2 := opD_put hro hoj (hfree j oj hoj hji hjun hnot) (fun cs b => hsel i oi cs b hi) (fun cs b => hsel j oj cs b hoj) hQ hy h1
      have hfree' : ∀ k ok, ops[k]? = some ok → k ≠ i → (listed.setIfInBounds j true).getD k true = false →
          (∀ e ∈ ok.after, Region.binds md e = true → e.on ≠ i) → oi.apart ops ok = true := fun k ok hk hki hun hno => by
        refine hfree k ok hk hki ?_ hno
        by_cases hjk : j = k
        · subst hjk; exact hjun
        · rw [getD_set_ne true hjk] at hun; exact hun
      refine wpOpIn_mono (fun a' w' h3 => ?_) h2
      have h4 := h3.2
      rw [hnw, if_neg (by decide)] at h4 ⊢
      refine ih (listed.setIfInBounds j true) a' w' hfree' (ready_mono hr (Ne.symm hji)) h3.1 ?_
      rw [Array.setIfInBounds_comm _ _ hji]
      exact h4
/-- what is asked of the region's form -/
def lateB3 (ops : Array Oper) (n k : Nat) : Bool :=
  Region.noSelect ops && decide (1 < n) && decide (n + k < ops.size) && sinkB3 .any ops 2 n && Region.chainB .any ops n && Region.lexHead .any ops (ops.size - n) (n - 2) 2 (((Array.replicate ops.size false).setIfInBounds 0 true).setIfInBounds 1 true) &&
    Region.waitsFor .any ops (n + k) 0 && Region.free .any ops (Array.replicate ops.size false) 0 && (Region.ready .any ops (Array.replicate ops.size false)).contains 0 &&
    Region.free .any ops ((Array.replicate ops.size false).setIfInBounds 0 true) 1 && (Region.ready .any ops ((Array.replicate ops.size false).setIfInBounds 0 true)).contains 1 &&
    (List.range ops.size).all fun j => !Region.waitsFor .any ops j 0 || Region.waitsFor .any ops j 1
/-- A region that draws its order, whose first two operations are waited for by the last ones alone (the first reads memory, the second does not): they first, n - 2 quiet ones, k that turn something else, the others one behind the other. -/
theorem any_late3 {a : Act} {w : World} {l : List Oper} (n k : Nat) (hro : F.round = none) (hB : lateB3 l.toArray n k = true) (o0 o1 : Oper) (h0 : l[0]? = some o0) (h1 : l[1]? = some o1) (hgn : ∀ o ∈ (l.drop n).take k, o.guard = none) (v0 v1 : Value)
    (hQ : ∀ c a w, Q (.panic c) (a.put o0.dst v0) w → Q (.panic c) a w) (hQ1 : ∀ c a w, Q (.panic c) (a.put o1.dst v1) w → Q (.panic c) a w) (hy : YieldsD P l.toArray D o0 v0 a) (hy1 : YieldsD P l.toArray (fun _ => True) o1 v1 (a.put o0.dst v0)) (hCD : ∀ w, C w → D w) (hC : C w)
    (h : wpQuietIn F m P l.toArray C (fun a' => ∀ w', C w' → wpListT F m P l.toArray D Q (l.drop (n + k)) ((l.drop n).take k) a' w') ((l.drop 2).take (n - 2)) ((a.put o0.dst v0).put o1.dst v1)) :
    wpAnyIn F m P .any l.toArray Q l.toArray.size (Array.replicate l.toArray.size false) a w := by
  simp only [lateB3, Bool.and_eq_true, decide_eq_true_eq] at hB
  obtain ⟨⟨⟨⟨⟨⟨⟨⟨⟨⟨⟨hsel, hn0⟩, hn⟩, hs⟩, hc⟩, hlex⟩, hw0⟩, hf0⟩, hr0⟩, hf1⟩, hr1⟩, hall⟩ := hB
  have hn' : n + k < l.length := by simpa using hn
  have hr0' : 0 ∈ Region.ready .any l.toArray (Array.replicate l.toArray.size false) := by simpa using hr0
  have hr1' : 1 ∈ Region.ready .any l.toArray ((Array.replicate l.toArray.size false).setIfInBounds 0 true) := by simpa using hr1
  have h0a : l.toArray[0]? = some o0 := by simpa using h0
  have h1a : l.toArray[1]? = some o1 := by simpa using h1
  have hww : ∀ j, Region.waitsFor .any l.toArray j 0 = true → Region.waitsFor .any l.toArray j 1 = true := fun j hj => by
    obtain ⟨oj, hoj, _⟩ := Region.waitsFor_spec hj
    have hlt : j < l.toArray.size := (Array.getElem?_eq_some_iff.1 hoj).1
    have := List.all_eq_true.1 hall j (List.mem_range.2 hlt)
    rw [hj] at this
    simpa using this
  have inv0 : HeadInv .any l.toArray n (Array.replicate l.toArray.size false) :=
    ⟨by simp, fun j oj _ hl => (by rw [getD_replicate_false] at hl; cases hl), fun t _ ht => getD_in (by simpa using ht) (getD_replicate_false _ _)⟩
  have inv1 := inv0.set hr0' (by omega)
  have inv2 := inv1.set hr1' hn0
  have htl : ((l.drop 2).take (n - 2)).length = n - 2 := by simp; omega
  have H := wpAnyLQ3_lex (m0 := 2) (md := .any) (g := l.toArray.size - n) hsel hs hc (by omega) ((l.drop 2).take (n - 2)) 2 _ ((a.put o0.dst v0).put o1.dst v1) (Nat.le_refl _) (fun j hj => by
    have hj' : j < n - 2 := by rw [htl] at hj; exact hj
    simp [hj', Nat.add_comm]) (by rw [htl]; omega) inv2 (by rw [htl]; exact hlex) h
  have hlm : ((l.drop n).take k).length = k := by simp; omega
  have hlr : (l.drop (n + k)).length = l.length - (n + k) := by simp
  have hsz : ((l.drop n).take k).length + (l.drop (n + k)).length = l.toArray.size - n := by rw [hlm, hlr]; simp; omega
  have happ : (l.drop n).take k ++ l.drop (n + k) = l.drop n := by rw [← List.drop_drop]; exact List.take_append_drop _ _
  have T := wpAnyT_of_headQ (D := D) (Q := Q) (g := l.toArray.size - n) hro hCD (fun listed a' w' hw' hL => by
    obtain ⟨hseq, hLq⟩ := hL
    rw [← hsz] at hseq ⊢
    exact wpAnyT_of_list (fun e => by rw [e] at hlr; simp at hlr; omega) _ n listed a' w' (fun j => by rw [happ]; simp [List.getElem?_drop]) (by rw [hlm]; exact hw0) hgn hseq (hLq w' hw')) _ _ _ _ hC H
  rw [htl, show n - 2 + (l.toArray.size - n) = l.toArray.size - 2 by omega] at T
  have T1 := late_pureT (md := .any) 1 hro h1a (Region.noSelect_spec hsel) hQ1 hww (l.toArray.size - 2) _ (a.put o0.dst v0) w (Region.free_spec h1a hf1) hr1' hy1 T
  rw [show l.toArray.size - 2 + 1 = l.toArray.size - 1 by omega] at T1
  have := late_first (md := .any) hro h0a (Region.noSelect_spec hsel) hQ (l.toArray.size - 1) _ a w (Region.free_spec h0a hf0) hr0' hy T1
  rw [show l.toArray.size - 1 + 1 = l.toArray.size by omega] at this
  exact this
theorem region_late3_inRound {id r : Nat} {a : Act} {w : World} {l : List Oper} (n k : Nat) (hro : F.round = none) (hd : noDefer l.toArray = true) (hm : P.follows .mixedOrders = true) (hB : lateB3 l.toArray n k = true) (o0 o1 : Oper) (h0 : l[0]? = some o0) (h1 : l[1]? = some o1) (hgn : ∀ o ∈ (l.drop n).take k, o.guard = none) (v0 v1 : Value)
    (hQ : ∀ c a w, Q (.panic c) (a.put o0.dst v0) w → Q (.panic c) a w) (hQ1 : ∀ c a w, Q (.panic c) (a.put o1.dst v1) w → Q (.panic c) a w) (hy : YieldsD P l.toArray D o0 v0 a) (hy1 : YieldsD P l.toArray (fun _ => True) o1 v1 (a.put o0.dst v0)) (hCD : ∀ w, C w → D w) (hC : C w.drew)
    (h : wpQuietIn F m P l.toArray C (fun a' => ∀ w', C w' → wpListT F m P l.toArray D Q (l.drop (n + k)) ((l.drop n).take k) a' w') ((l.drop 2).take (n - 2)) ((a.put o0.dst v0).put o1.dst v1)) :
    (Code.region id l.toArray true).wpIn (F.inRound r) m P Q a w :=
  region_inRound hro hd hm (any_late3 n k hro hB o0 o1 h0 h1 hgn v0 v1 hQ hQ1 hy hy1 hCD hC h)
theorem op_k3 {o : Oper} {a : Act} {w : World} {X : Act → World → Prop} (h : ∀ K : Act → World → Prop, (∀ a w, X a w → K a w) → Oper.wpIn F m P o a w K Q) : Oper.wpIn F m P o a w X Q := h X fun _ _ h => h
end
end Go.PM
namespace Go.PF
open Go.PM Go.RowKit Go.PD
theorem arrB_mem {n : Nat} (h1 : 1 ≤ n) (h4 : n ≤ 4) (q : ByteArray) (hq : q ∈ arrB n ⟨#[]⟩) : parOk q.data.toList = true ∧ q.data.toList.length = n := by
  have h := List.mem_map_of_mem (f := fun q : ByteArray => q.data.toList) hq
  rw [arrB_map] at h
  exact (arrs_par h1 h4 _).1 h
theorem arrB_len (n : Nat) (h4 : n ≤ 4) : (arrB n ⟨#[]⟩).length ≤ 1296 := by
  have h := congrArg List.length (arrB_map n ⟨#[]⟩)
  rw [List.length_map] at h
  rw [h]
  exact Nat.le_trans (arrs_len n _) (Nat.pow_le_pow_right (n := 6) (by omega) h4)
theorem yieldsD_loadF {P : Program} {ops : Array Oper} {o : Oper} {a : Act} (hgd : o.guard = none) (ty : TypeId) (x : Operand) (ho : o.op = .load ty x) (hagg : ∀ w, (isAgg ty).run P w = .ok false w) (b : Nat) (hx : a.eval x = .pointer (some ⟨b, 0, none⟩)) (v : Value) :
    YieldsD P ops (fun w => w.cell? ⟨b, 0, none⟩ = some v) o v a := by
  refine ⟨by simp [Region.wanted, hgd], fun w hw => ?_, fun w => by simp [Oper.about, ho]⟩
  simp [execOp, ho, hx, Instr.loadAt, Instr.sureAddr, loadVar, Sem.run_bind, hagg, run_load, hw]
end Go.PF
namespace Go.Proofs.YthgcoocgeekdnaaDoor
open Go.RowKit Go.PM Go.PD Go.PF Go.Lib
attribute [local go_sem] Oper.semAt_some
theorem Kn.same {W W' : World} {b n : Nat} (h : Kn W b n) (e : W'.heap[b]? = W.heap[b]?) : Kn W' b n := by
  obtain ⟨D, ⟨es, c, hb, hF⟩, k⟩ := h
  exact ⟨D, ⟨es, c, e.trans hb, hF⟩, k⟩

theorem choices_c (n : Int) (A : Option Addr) (len cap : Nat) (w : World) :
    Calls Tryd.prog 46 #[.int .i64 n, .slice A len cap] w fun e w' => e = .returned (.func (.func 67) #[] #[.pointer (some ⟨w.heap.size, 0, none⟩), .pointer (some ⟨w.heap.size + 1, 0, none⟩)]) ∧ w' = (w.alloc (.cells #[.int .i64 n] 3)).alloc (.cells #[.slice A len cap] 23) := by
  go_enter Tryd.func46, Tryd.ntmps46
  go_wp2
  go_ret
  exact ⟨by simp, rfl⟩
set_option maxRecDepth 100000 in
set_option maxHeartbeats 6400000 in
theorem cho_iter (n : Nat) (cs : List ByteArray) (hcs : csOk (n : Int) cs = true) (v : Value) (b1 b2 m : Nat) :
    IterK (fun A => U8w A ∧ RdT A v cs ∧ At A b1 3 #[.int .i64 n] ∧ At A b2 23 #[v]) Fence.wide m Tryd.prog 67 (fun y => #[] ++ #[y] ++ #[.pointer (some ⟨b1, 0, none⟩), .pointer (some ⟨b2, 0, none⟩)]) (fun q : ByteArray => #[.string q, .int .i64 (totI q.data.toList cs)]) (arrB n ⟨#[]⟩) := by
  obtain ⟨N, hN⟩ : ∃ N : Nat, 10 ≤ N := ⟨10, Nat.le_refl _⟩
  refine IterK.wide (n := N) ?_
  intro l J Jx W hJ hJx hP hY h0
  obtain ⟨h1, h4, h5, _⟩ := cs_at hcs
  obtain ⟨hT0, hx0, hA1, hA2⟩ := hP _ _ h0
  obtain ⟨Av, cap, rfl, _, _, _⟩ := id hx0.open
  have c1 : W.cell? ⟨b1, 0, none⟩ = some (.int .i64 n) := hA1.cell 0
  have hl1 := hA1.lt
  have hl2 := hA2.lt
  have HLEN := Lib.hid (arrB_len n (by omega))
  have HMEM := Lib.hid (fun q hq => arrB_mem (n := n) (by omega) (by omega) q hq)
  have HCL := Lib.hid (fun ps (hp : parOk ps = true) (hl : (ps.length : Int) = n) => cs_cl hcs hp hl)
  have HIT := Lib.hid (fun b1 b2 m => arr_iter n ⟨#[]⟩ n (by show 0 + n = n; omega) (by omega) b1 b2 m)
  have hmm := @run_makeMap Tryd.prog
  change CallsIn _ _ _ _ #[.func (.yield l) #[] #[], .pointer (some ⟨b1, 0, none⟩), .pointer (some ⟨b2, 0, none⟩)] W _
  refine callsIn_of_wp_marks Tryd.func67 rfl trivial ?_ rfl
  simp only [Tryd.ntmps67, List.size_toArray, List.length_cons, List.length_nil, Nat.reduceAdd, Nat.reduceSub, Array.replicate_succ, Array.replicate_zero, List.push_toArray, List.append_toArray, List.nil_append, List.cons_append]
  obtain ⟨W0, hW0⟩ : ∃ W0 : World, W0 = ((W.alloc (.cells #[.func (.yield l) #[] #[]] 87)).alloc (.map #[] 0)).alloc (.cells #[.map (some (W.heap.size + 1))] 44) := ⟨_, rfl⟩
  have hS0 : W0.heap.size = W.heap.size + 3 := by rw [hW0]; simp only [World.size_alloc]
  have hB0 : Below W.heap.size W W0 := by rw [hW0]; (repeat' (first | (with_reducible exact Below.refl _ _) | (with_reducible assumption) | (with_reducible refine Below.alloc ?_ ?_ _) | (with_reducible refine Below.drew ?_) | (with_reducible refine Below.setCell ?_ ?_ _) | (with_reducible exact Nat.le_refl _) | omega | ((repeat (first | rewrite [World.size_alloc] | rewrite [World.size_setCell] | rewrite [World.size_drew])); omega) | (simp; omega) | (simp; done)))
  have y0 : At W0 W.heap.size 87 #[.func (.yield l) #[] #[]] := by rw [hW0]; exact ((At.new _ _ _).alloc _).alloc _
  have k0 : Kn W0 (W.heap.size + 1) 0 := by
    rw [hW0]
    have := Kn.made (W.alloc (.cells #[.func (.yield l) #[] #[]] 87))
    rw [World.size_alloc] at this
    exact this.kept (World.grownBy_alloc _ _ none) (by simp)
  have z0 : At W0 (W.heap.size + 1 + 1) 44 #[.map (some (W.heap.size + 1))] := by
    rw [hW0]
    have := At.new ((W.alloc (.cells #[.func (.yield l) #[] #[]] 87)).alloc (.map #[] 0)) 44 #[.map (some (W.heap.size + 1))]
    rwa [World.size_alloc, World.size_alloc] at this
  have j0 : J [] W0 := by rw [hW0]; exact hJ.alloc _ (hJ.alloc _ (hJ.alloc _ h0))
  have c1 : (((W.alloc (.cells #[.func (.yield l) #[] #[]] 87)).alloc (.map #[] 0)).alloc (.cells #[.map (some (W.heap.size + 1))] 44)).cell? ⟨b1, 0, none⟩ = some (.int .i64 n) := by rw [← hW0]; exact (hA1.keep hB0).cell 0
  clear hT0 hx0 hA1 hA2 h1 h4
  gi_wp2_with fail
  rw [← hW0]
  refine ⟨trivial, fun _ => by omega, callsIn_wide.2 ((arrangements_c _ _ _).mono ?_)⟩
  rintro e W1 ⟨rfl, hW1⟩
  have hS1 : W1.heap.size = W.heap.size + 5 := by rw [hW1]; simp only [World.size_alloc]; omega
  have hB1 : Below W0.heap.size W0 W1 := by rw [hW1]; (repeat' (first | (with_reducible exact Below.refl _ _) | (with_reducible assumption) | (with_reducible refine Below.alloc ?_ ?_ _) | (with_reducible refine Below.drew ?_) | (with_reducible refine Below.setCell ?_ ?_ _) | (with_reducible exact Nat.le_refl _) | omega | ((repeat (first | rewrite [World.size_alloc] | rewrite [World.size_setCell] | rewrite [World.size_drew])); omega) | (simp; omega) | (simp; done)))
  have x1 : At W1 W0.heap.size 41 #[.string ⟨#[]⟩] := by rw [hW1]; exact (At.new _ _ _).alloc _
  have x2 : At W1 (W0.heap.size + 1) 3 #[.int .i64 n] := by
    rw [hW1]
    have := At.new (W0.alloc (.cells #[.string ⟨#[]⟩] 41)) 3 #[.int .i64 n]
    rwa [World.size_alloc] at this
  have j1 : J [] W1 := by rw [hW1]; exact hJ.alloc _ (hJ.alloc _ j0)
  have y1 := y0.keep hB1
  have z1 := z0.keep hB1
  have k1 := k0.below hB1
  have hT0 : W.heap.size + 3 ≤ W0.heap.size := by omega
  have hT1 : W0.heap.size + 2 ≤ W1.heap.size := by omega
  clear hW0 hW1 hB0 hB1 y0 z0 k0 j0 h0 c1 hS0 hS1
  gi_wp2
  refine range_lawK1 (F := Fence.wide) (gf := 86) (lf := #[]) (lb := #[.pointer (some ⟨W0.heap.size, 0, none⟩), .pointer (some ⟨W0.heap.size + 1, 0, none⟩)]) rfl (by omega) rfl trivial (fun args w => rfl) (encs := fun q : ByteArray => #[.string q]) (xs := arrB n ⟨#[]⟩)
    (HIT.out W0.heap.size (W0.heap.size + 1) _) (fun _ => rfl)
    (fun pre Z => J pre Z ∧ At Z W.heap.size 87 #[.func (.yield l) #[] #[]] ∧ At Z (W.heap.size + 1 + 1) 44 #[.map (some (W.heap.size + 1))] ∧ Kn Z (W.heap.size + 1) (5 * pre.length) ∧ At Z W0.heap.size 41 #[.string ⟨#[]⟩] ∧ At Z (W0.heap.size + 1) 3 #[.int .i64 n] ∧ W1.heap.size ≤ Z.heap.size)
    (fun cc pre Z => cc = .ret ∧ Jx pre Z) ?pr ?own ?ownx ?start ?a1 ?assign ?body ?done ?stop
  case pr => exact fun pre Z h => ⟨h.2.2.2.2.1, h.2.2.2.2.2.1⟩
  case own =>
    rintro pre Z Z' row ⟨g1, g2, g3, g4, g5, g6, g7⟩ hg hr
    exact ⟨hJ _ _ _ _ g1 hg (fun r e => ⟨by have := (hr r e).1; omega, (hr r e).2⟩), at_turn g2 hg (fun r e => (hr r e).2), at_turn g3 hg (fun r e => (hr r e).2), g4.kept hg (fun e => by have h9 := (hr _ e.symm).1; omega), at_turn g5 hg (fun r e => (hr r e).2), at_turn g6 hg (fun r e => (hr r e).2), Nat.le_trans g7 hg.size⟩
  case ownx =>
    rintro cc pre Z Z' row ⟨g0, g1⟩ hg hr
    exact ⟨g0, hJx _ _ _ _ g1 hg (fun r e => ⟨by have := (hr r e).1; omega, (hr r e).2⟩)⟩
  case start => exact ⟨j1, y1, z1, k1, x1, x2, Nat.le_refl _⟩
  case assign =>
    intro l2 q Z K hK
    gi_wp2
    exact hK
  case done =>
    rintro D Z hD ⟨g1, -⟩ hd
    clear j1 y1 z1 k1 x1 x2
    gi_wp2
    refine leaves_J hJ _ [D] Z ⟨by simp, fun E hE => ?_⟩ g1 ?_
    · obtain rfl : E = D := by simpa using hE
      exact ⟨by omega, hd⟩
    · intro A' hA'
      exact ⟨_, results_none rfl _ _ _, ⟨_, rfl⟩, .inl hA'⟩
  case stop =>
    rintro D cc pre Z hD hp ⟨rfl, g1⟩ hd
    clear j1 y1 z1 k1 x1 x2
    gi_wp2
    refine leaves_J hJx _ [D] Z ⟨by simp, fun E hE => ?_⟩ g1 ?_
    · obtain rfl : E = D := by simpa using hE
      exact ⟨by omega, hd⟩
    · intro A' hA'
      exact ⟨_, results_none rfl _ _ _, ⟨_, rfl⟩, .inr ⟨_, hp, hA'⟩⟩
  case body =>
    rintro l2 pre q Z ⟨g1, g2, g3, g4, g5, g6, g7⟩ hp hsz
    have hqm : q ∈ arrB n ⟨#[]⟩ := by
      obtain ⟨t, ht⟩ := hp
      rw [← ht]; simp
    have hpl : pre.length ≤ 1296 := by
      have e1 := hp.length_le
      have e2 := HLEN.out
      rw [List.length_append] at e1
      omega
    obtain ⟨hq1, hq2⟩ := HMEM.out q hqm
    obtain ⟨hT, hx, hA1, hA2⟩ := hP _ _ g1
    have hbd : Below Z.heap.size Z Z.drew := (Below.refl _ _).drew
    have hTOT := total_c (W.heap.size + 1) (5 * pre.length) q cs _ Z.drew (hT.below hbd) g4.drew (hx.below hbd) h5 (HCL.out _ hq1 (by omega)) (by unfold maxLen; omega)
    have HTOT := Lib.hid hTOT
    have gd1 : J pre Z.drew := hJ _ _ _ none g1 (grown_below hbd none) (fun r e => by cases e)
    have gd2 : At Z.drew W.heap.size 87 #[.func (.yield l) #[] #[]] := g2
    have cY : Z.drew.cell? ⟨W.heap.size, 0, none⟩ = some (.func (.yield l) #[] #[]) := g2.cell 0
    have cK : Z.drew.cell? ⟨W.heap.size + 1 + 1, 0, none⟩ = some (.map (some (W.heap.size + 1))) := g3.cell 0
    have cV : Z.drew.cell? ⟨b2, 0, none⟩ = some (.slice Av cs.length cap) := hA2.cell 0
    have lY := g2.lt
    have lK := g3.lt
    have lV := hA2.lt
    have hob := g4.drew.obj
    clear hTOT hT hx hA1 hA2 hq1 hq2 hqm g1
    gi_wp2
    refine region_late3_inRound (F := Fence.wide) (C := fun w' => w' = Z.drew) (D := fun w' => w'.cell? ⟨W.heap.size, 0, none⟩ = some (.func (.yield l) #[] #[])) 5 1 rfl (by kernel_rfl) (by kernel_rfl) (by kernel_rfl) _ _ (by rfl) (by rfl) (by simp) (.func (.yield l) #[] #[]) (.string q) (fun _ _ _ h => h) (fun _ _ _ h => h) (yieldsD_loadF (by rfl) _ _ (by rfl) (fun w => by kernel_rfl) _ (by rfl) _) (yieldsD_move (by rfl) _ (by rfl) _ (by rfl)) (fun w' hw => by subst hw; exact cY) rfl ?_
    simp only [List.take_succ_cons, List.take_zero, List.drop_succ_cons, List.drop_zero, Nat.reduceSub, Nat.reduceAdd]
    simp only [Act.put, List.setIfInBounds_toArray, List.set_cons_succ, List.set_cons_zero]
    gi_big_quiet_step (fail)
    gi_big_quiet_step (fail)
    gi_big_quiet_step (fail)
    refine wpQuietIn_nil ?_
    intro w' hw'
    subst hw'
    refine ⟨cY, op_k3 (fun K hK => ?_)⟩
    go_simp
    refine ⟨trivial, fun _ => by omega, callsIn_wide.2 (HTOT.out.mono ?_)⟩
    rintro e w3 ⟨rfl, hK3, hT3, hg3⟩
    refine hK _ _ ?_
    clear hK K
    have hzd : Z.drew.heap.size = Z.heap.size := rfl
    have hz3 := hg3.size
    have hto : ∀ r, some (W.heap.size + 1) = some r → ∃ o : Obj, Z.drew.heap[r]? = some o ∧ o.isCells = false := fun r e => by cases e; exact hob
    have d3 : w3.cell? ⟨W.heap.size, 0, none⟩ = some (.func (.yield l) #[] #[]) := (at_turn gd2 hg3 hto).cell 0
    have e1 : J pre w3 := hJ _ _ _ _ gd1 hg3 (fun r e => ⟨by cases e; omega, hto r e⟩)
    have e2 := at_turn gd2 hg3 hto
    have e3 : At w3 (W.heap.size + 1 + 1) 44 #[.map (some (W.heap.size + 1))] := at_turn (w := Z.drew) g3 hg3 hto
    have e5 : At w3 W0.heap.size 41 #[.string ⟨#[]⟩] := at_turn (w := Z.drew) g5 hg3 hto
    have e6 : At w3 (W0.heap.size + 1) 3 #[.int .i64 n] := at_turn (w := Z.drew) g6 hg3 hto
    have hk3 : KeepsNew W1.heap.size Z w3 := (KeepsNew.drew Z).trans (KeepsNew.grown hg3 (fun g e => by cases e; omega))
    have hyl := yieldAt_wide (m := N - 1 - 1 - 1) (hY _ q w3 e1 (by omega) hp)
    obtain ⟨fn, tmps, assign, body, hy, hR⟩ := hyl
    have hpl2 : (pre ++ [q]).length = pre.length + 1 := by simp
    have HCONT : Hid (∀ Z', J (pre ++ [q]) Z' → KeepsNew W.heap.size w3 Z' → (J (pre ++ [q]) Z' ∧ At Z' W.heap.size 87 #[.func (.yield l) #[] #[]] ∧ At Z' (W.heap.size + 1 + 1) 44 #[.map (some (W.heap.size + 1))] ∧ Kn Z' (W.heap.size + 1) (5 * (pre ++ [q]).length) ∧ At Z' W0.heap.size 41 #[.string ⟨#[]⟩] ∧ At Z' (W0.heap.size + 1) 3 #[.int .i64 n] ∧ W1.heap.size ≤ Z'.heap.size) ∧ KeepsNew W1.heap.size Z Z') := fun Z' h1 hk => by
      refine ⟨⟨h1, hk.block (Nat.le_refl _) e2, hk.block (by omega) e3, ?_, hk.block (by omega) e5, hk.block (by omega) e6, by have := hk.size; omega⟩, hk3.trans (hk.mono (by omega))⟩
      rw [hpl2]
      exact (hK3.same (hk.same _ (by omega) hK3.lt)).mono (by omega)
    have HSTOP : Hid (∀ Z', Jx (pre ++ [q]) Z' → KeepsNew W.heap.size w3 Z' → Jx (pre ++ [q]) Z' ∧ KeepsNew W1.heap.size Z Z') := fun Z' h1 hk => ⟨h1, hk3.trans (hk.mono (by omega))⟩
    refine ⟨d3, ?_⟩
    clear g2 g3 g4 g5 g6 gd1 gd2 cY cK cV hob HTOT hK3 hT3 hg3 hto d3 e1 e2 e3 e5 e6 hk3 j1 y1 z1 k1 x1 x2 hp hz3
    gi_wp2
    refine ⟨fun _ => by omega, RoundIn.mono hR ?_⟩
    rintro e Z' (⟨rfl, h1, hk2⟩ | ⟨rfl, h1, hk2⟩)
    · have fin := Lib.hid (HCONT.out Z' h1 hk2)
      clear hR hy h1 hk2
      gi_wp2
      exact fin.out
    · have fin := Lib.hid (HSTOP.out Z' h1 hk2)
      clear hR hy h1 hk2
      gi_wp2
      exact ⟨⟨rfl, fin.out.1⟩, fin.out.2⟩
end Go.Proofs.YthgcoocgeekdnaaDoor
