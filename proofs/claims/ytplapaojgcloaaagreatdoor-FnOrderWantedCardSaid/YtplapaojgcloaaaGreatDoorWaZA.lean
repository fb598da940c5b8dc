import Derived.Test.YtplapaojgcloaaaGreatDoorRows
import Derived.Test.YtplapaojgcloaaaGreatDoorLib
import Derived.ProofKit
import Derived.OpenShut
import Derived.ShutString
import Derived.ChangeOld
import Derived.Deep.Slices
import Derived.ChangeSame
import Derived.Carry
import Derived.Test.YtplapaojgcloaaaGreatDoorDraw
import Derived.Test.YtplapaojgcloaaaGreatDoorReaders
import Derived.Test.YtplapaojgcloaaaGreatDoorDraw3
import Derived.Test.YtplapaojgcloaaaGreatDoorTouch
import Derived.Test.YtplapaojgcloaaaGreatDoorRight
import Derived.Test.YtplapaojgcloaaaGreatDoorTop3
import Derived.Test.YtplapaojgcloaaaGreatDoorApp
import Derived.Test.YtplapaojgcloaaaGreatDoorNames
import Derived.Test.YtplapaojgcloaaaGreatDoorTail
import Derived.Laws.EntriesVeiled
import Derived.Test.YtplapaojgcloaaaGreatDoorRange
import Derived.Test.YtplapaojgcloaaaGreatDoorHold
import Derived.Test.YtplapaojgcloaaaGreatDoorP2
import Derived.Test.YtplapaojgcloaaaGreatDoorWaP
import Derived.Test.YtplapaojgcloaaaGreatDoorRow
import Derived.Test.YtplapaojgcloaaaGreatDoorHar
import Derived.Laws.CopyOwn
namespace Go.Proofs.YtplapaojgcloaaaGreatDoor
open Go.RowKit Go.PM Go.ChangeShapes Go.WideShapes Go.Deep

theorem own : ownKnob Tryz.prog.godebug = none := by kernel_rfl
theorem laidOut : laidOutB Tryz.prog = true := by kernel_rfl

theorem exists_list {α : Type} (Q : Nat → α → Prop) : ∀ n, (∀ i, i < n → ∃ m, Q i m) → ∃ xs : List α, xs.length = n ∧ ∀ i (h : i < xs.length), Q i xs[i]
  | 0, _ => ⟨[], rfl, fun i h => absurd h (Nat.not_lt_zero _)⟩
  | n + 1, h => by
    obtain ⟨xs, hl, hx⟩ := exists_list Q n fun i hi => h i (by omega)
    obtain ⟨m, hm⟩ := h n (by omega)
    refine ⟨xs ++ [m], by simp [hl], fun i hi => ?_⟩
    by_cases h1 : i < xs.length
    · rw [List.getElem_append_left h1]; exact hx i h1
    · have h2 : i = xs.length := by simp at hi; omega
      subst h2
      rw [List.getElem_append_right (Nat.le_refl _)]
      simpa [hl] using hm

theorem rdM_mk {w : World} {ad : Addr} {cap : Nat} (xs : List Mv) (hc : xs.length ≤ cap) (hn : xs.length ≤ 9223372036854775807)
    (h : ∀ i (hi : i < xs.length), w.cell? (ad.add (i * 2)) = some (.string xs[i].1) ∧ w.cell? ((ad.add (i * 2)).add 1) = some (.string xs[i].2)) : RdM w (.slice (some ad) xs.length cap) xs := by
  refine ⟨some ad, cap, rfl, hc, hn, mcells_length xs, fun h0 => ?_⟩
  have h1 := (h 0 h0).1
  obtain ⟨b, off, spot⟩ := ad
  have hs : spot = none := by
    have := World.cell?_spot h1
    simpa [Addr.add] using this
  subst hs
  have hadd : ∀ o i, (Addr.mk b o none).add i = ⟨b, o + i, none⟩ := fun o i => by
    unfold Addr.add; split
    · next h => subst h; rfl
    · rfl
  refine ⟨b, off, rfl, ?_, fun j u hu => ?_⟩
  · rcases Nat.lt_or_ge b w.heap.size with hlt | hge
    · exact hlt
    · rw [hadd] at h1
      simp [World.cell?, Array.getElem?_eq_none hge] at h1
  · have hj : j < xs.length * 2 := by rw [← mcells_length]; exact (List.getElem?_eq_some_iff.1 hu).1
    have hk : j / 2 < xs.length := by omega
    have hm := mcells_at xs (j / 2) _ (List.getElem?_eq_getElem hk)
    have hh := h (j / 2) hk
    rw [hadd, hadd] at hh
    rcases Nat.mod_two_eq_zero_or_one j with h0 | h0
    · have e : j / 2 * 2 = j := by omega
      rw [e] at hm hh
      rw [hm.1] at hu
      rw [hh.1, hu]
    · have e : j / 2 * 2 + 1 = j := by omega
      rw [e] at hm
      rw [Nat.add_assoc, e] at hh
      rw [hm.2] at hu
      rw [hh.2, hu]

end Go.Proofs.YtplapaojgcloaaaGreatDoor
namespace Go.Proofs.YtplapaojgcloaaaGreatDoor
open Go.RowKit Go.PM
open Go.ChangeShapes Go.WideShapes Go.Deep in
set_option maxRecDepth 100000 in
theorem open_bytes {H : Type} {enc : TypeId × Value → H} {W : World} {base fuel : Nat} {spare : Nat → Bool} {held : Bool} {a : Option Addr} {n c : Nat} {x : DataW H × List MemPlace}
    (h : DataW.trod enc Tryz.prog W base spare held fuel 22 [.slice a n c] = some x) : RdB W W.heap.size (.slice a n c) n := by
  rcases open_slice Tryz.underlying22 h with ⟨hcs, _⟩ | ⟨ad, len, cap, m, k, D, Pl, hcs, hb, hl, hm, hmm, hx, hi⟩
  · simp at hcs
    obtain ⟨rfl, rfl, rfl⟩ := hcs
    exact ⟨none, 0, rfl, by omega, by omega, fun k hk => absurd hk (Nat.not_lt_zero k)⟩
  · simp at hcs
    obtain ⟨rfl, rfl, rfl⟩ := hcs
    have hC : Tryz.prog.cellsOf 5 = 1 := by kernel_rfl
    have hml : n ≤ m := by rw [hmm]; split <;> omega
    have hM : maxLen = 9223372036854775807 := rfl
    have hcell : ∀ i, i < n → ∃ kk, W.cell? (ad.add i) = some (.int .u8 kk) ∧ 0 ≤ kk ∧ kk ≤ 255 := fun i hin => by
      obtain ⟨cs', hc', ht⟩ := hi i (by omega)
      rw [hC] at hc'
      obtain ⟨kk, hk, _, hwf⟩ := DataW.trod_int Tryz.underlying5 ht
      subst hk
      obtain ⟨_, hcl, hat⟩ := World.cells?_some hc'
      have h1 := hat 0 (by omega)
      refine ⟨kk, by simpa [Addr.add] using h1, ?_⟩
      simpa [Lit.wf, IntKind.min, IntKind.max, IntKind.signed, IntKind.bits] using hwf
    clear hi hx h
    refine ⟨some ad, c, rfl, by omega, by omega, fun i hin => ?_⟩
    obtain ⟨b, off, spot⟩ := ad
    have hs : spot = none := by
      obtain ⟨_, h0, _⟩ := hcell 0 (by omega)
      have := World.cell?_spot h0
      simpa [Addr.add] using this
    subst hs
    obtain ⟨kk, h1, hw1, hw2⟩ := hcell i hin
    have hadd : (Addr.mk b off none).add i = ⟨b, off + i, none⟩ := by
      unfold Addr.add; split
      · next h => subst h; rfl
      · rfl
    rw [hadd] at h1
    have hb : b < W.heap.size := by
      rcases Nat.lt_or_ge b W.heap.size with hlt | hge
      · exact hlt
      · simp [World.cell?, Array.getElem?_eq_none hge] at h1
    exact ⟨b, off, kk, rfl, hb, hb, h1, hw1, by omega⟩
end Go.Proofs.YtplapaojgcloaaaGreatDoor
namespace Go.PM
open Go.RowKit
/-- one of a text's letters is the given text -/
def pmH (s c : ByteArray) : Bool := (List.range s.size).any fun i => decide (s.extract i (i + 1) = c)
def pmK (s c : ByteArray) (k : Nat) : Bool := (List.range k).any fun i => decide (s.extract i (i + 1) = c)
theorem pmK_succ (s c : ByteArray) (k : Nat) : pmK s c (k + 1) = (pmK s c k || decide (s.extract k (k + 1) = c)) := by
  simp [pmK, List.range_succ]
theorem pmK_yes {s c : ByteArray} (k : Nat) (hk : k < s.size) (h : s.extract k (k + 1) = c) : pmH s c = true := by
  rw [pmH, List.any_eq_true]
  exact ⟨k, by simpa using hk, decide_eq_true h⟩
theorem extract_at (s : ByteArray) (i : Nat) (h : i < s.size) : s.extract i (i + 1) = ⟨#[s[i]]⟩ := by
  apply ByteArray.ext
  apply Array.ext
  · simp only [ByteArray.data_extract, Array.size_extract]
    have : s.data.size = s.size := rfl
    simp; omega
  · intro j h1 h2
    have hj : j = 0 := by simpa using h2
    subst hj
    simp
    rfl
theorem pmH_one (s : ByteArray) (c : UInt8) : pmH s ⟨#[c]⟩ = decide (c ∈ s.data.toList) := by
  rw [pmH, Bool.eq_iff_iff, List.any_eq_true, decide_eq_true_eq]
  constructor
  · rintro ⟨i, hi, h⟩
    have hi' : i < s.size := by simpa using hi
    have h' := of_decide_eq_true h
    rw [extract_at s i hi'] at h'
    have : s[i] = c := by simpa using h'
    rw [← this]
    exact List.getElem_mem (l := s.data.toList) (n := i) (by simpa using hi')
  · intro h
    obtain ⟨i, hi, e⟩ := List.getElem_of_mem h
    have hi' : i < s.size := by simpa using hi
    refine ⟨i, by simpa using hi', decide_eq_true ?_⟩
    rw [extract_at s i hi', ← e]
    rfl
theorem place_inj : ∀ p < 9, ∀ q < 9, placesL.getD q 0 = placesL.getD p 0 → q = p := by decide +kernel
theorem nm_byte (p : Nat) (hp : p < 9) : nm p = ⟨#[placesL.getD p 0]⟩ := by
  match p, hp with
  | 0, _ | 1, _ | 2, _ | 3, _ | 4, _ | 5, _ | 6, _ | 7, _ | 8, _ => decide +kernel
theorem pmH_names (h : Nat → Bool) (p : Nat) (hp : p < 9) : pmH (namesW h) (nm p) = h p := by
  rw [nm_byte p hp, pmH_one, Bool.eq_iff_iff, decide_eq_true_eq]
  unfold namesW namesL
  simp only [List.mem_map, List.mem_filter, List.mem_range]
  constructor
  · rintro ⟨q, ⟨hq, hh⟩, e⟩
    rw [place_inj p hp q hq e] at hh; exact hh
  · intro hh; exact ⟨p, ⟨hp, hh⟩, rfl⟩
theorem srcM_isS {xs : List Mv} (h : MV xs) {a : ByteArray} (ha : isP a = true) : isS (srcM xs a) = true := by
  unfold srcM
  cases hf : xs.find? (fun m => decide (m.1 = a)) with
  | none => show isS a = true; unfold isS; rw [ha]; rfl
  | some m =>
    have hm := h.1 m (List.mem_of_find?_eq_some hf)
    unfold mok at hm; rw [Bool.and_eq_true] at hm
    exact hm.2
theorem nm_of_isP {a : ByteArray} (h : isP a = true) : ∃ p, p < 9 ∧ a = nm p := by
  obtain ⟨c, rfl⟩ := one_of_size (isP_size h)
  have h2 : c ∈ placesL := by simpa [isP] using h
  simp only [placesL, List.mem_cons, List.not_mem_nil, or_false] at h2
  rcases h2 with rfl | rfl | rfl | rfl | rfl | rfl | rfl | rfl | rfl
  · exact ⟨0, by decide, by decide +kernel⟩
  · exact ⟨1, by decide, by decide +kernel⟩
  · exact ⟨2, by decide, by decide +kernel⟩
  · exact ⟨3, by decide, by decide +kernel⟩
  · exact ⟨4, by decide, by decide +kernel⟩
  · exact ⟨5, by decide, by decide +kernel⟩
  · exact ⟨6, by decide, by decide +kernel⟩
  · exact ⟨7, by decide, by decide +kernel⟩
  · exact ⟨8, by decide, by decide +kernel⟩
end Go.PM
namespace Go.Proofs.YtplapaojgcloaaaGreatDoor
open Go.RowKit Go.PM
theorem pmH_rdrs {xs : List Mv} (h : MV xs) (a : ByteArray) (p : Nat) (hp : p < 9) : pmH (rdrs xs a) (nm p) = (decide (nm p ≠ a) && decide (srcM xs (nm p) = a)) := by
  rw [rdrs, ← rsH_rdH h, pmH_names _ p hp]; rfl
theorem pmH_source {xs : List Mv} (h : MV xs) {a : ByteArray} (ha : isP a = true) (hne : ¬ srcM xs a = a) : pmH (rdrs xs (srcM xs a)) a = true := by
  obtain ⟨p, hp, rfl⟩ := nm_of_isP ha
  rw [pmH_rdrs h _ p hp]
  have h1 : nm p ≠ srcM xs (nm p) := fun e => hne e.symm
  simp [h1]
theorem rdrs_size (xs : List Mv) (a : ByteArray) : (rdrs xs a).size ≤ 9 := namesL_size _ 9

set_option maxHeartbeats 800000 in
theorem pmHas_c (s c : ByteArray) (w : World) (hs : s.size ≤ 1000) :
    Calls Tryz.prog 16 #[.string s, .string c] w fun e w' => e = .returned (.bool (pmH s c)) ∧ Below w.heap.size w w' := by
  have HF : Hid (pmK s c s.size = pmH s c) := rfl
  go_enter Tryz.func16, Tryz.ntmps16
  go_wp2
  go_loopw [5, 8] (fun _ i wr => ∃ (k : Nat), k ≤ s.size ∧ i = .int .i64 k ∧ Hid (pmK s c k = false) ∧ Below w.heap.size w wr) (fun _ i _ => s.size - (intOf i).toNat)
  case atStart => exact ⟨0, by omega, rfl, rfl, Below.refl _ _⟩
  case round =>
    obtain ⟨k, hk, rfl, hp, hb⟩ := hrel
    have hbs := hb.size
    by_cases hlt : k < s.size
    · have i1 : (k : Int) < (s.size : Int) := by omega
      have HS := Lib.hid (pmK_succ s c k)
      have HY := Lib.hid (fun h => pmK_yes (s := s) (c := c) k hlt h)
      have hb2 := beq_str (s.extract k (k + 1)) c
      by_cases he : s.extract k (k + 1) = c
      · have H1 := Lib.hid (HY.out he)
        have q : ((s.extract k (k + 1)).toList == c.toList) = true := by rw [hb2, decide_eq_true he]
        clear hb2 he
        go_wp2
        go_ret
        exact ⟨by rw [H1.out]; rfl, hb⟩
      · have H1 : Hid (pmK s c (k + 1) = false) := by show _ = _; rw [HS.out, hp.out, decide_eq_false he]; rfl
        have q : ((s.extract k (k + 1)).toList == c.toList) = false := by rw [hb2, decide_eq_false he]
        clear hb2 he
        go_wp2
        go_roundw
        case rel => exact ⟨k + 1, by omega, by go_num, H1, hb⟩
        case measure => simp [intOf] <;> omega
    · have hk' : k = s.size := by omega
      have H1 : Hid (pmH s c = false) := by show _ = _; rw [← HF.out, ← hk']; exact hp.out
      clear hk'
      go_wp2
      go_ret
      exact ⟨by rw [H1.out]; rfl, hb⟩
end Go.Proofs.YtplapaojgcloaaaGreatDoor
namespace Go.PM
open Go.RowKit
theorem cell_inj : ∀ p < 11, ∀ q < 11, cellsL.getD q 0 = cellsL.getD p 0 → q = p := by decide +kernel
theorem pmH_pick (h : Nat → Bool) (p : Nat) (hp : p < 11) : pmH (pickB cellsL h 11) ⟨#[cellsL.getD p 0]⟩ = h p := by
  rw [pmH_one, Bool.eq_iff_iff, decide_eq_true_eq]
  unfold pickB pickL
  simp only [List.mem_map, List.mem_filter, List.mem_range]
  constructor
  · rintro ⟨q, ⟨hq, hh⟩, e⟩
    rw [cell_inj p hp q hq e] at hh; exact hh
  · intro hh; exact ⟨p, ⟨hp, hh⟩, rfl⟩
theorem nm_tq {p : Nat} (hp : p < 9) : nm p = tq p := by
  match p, hp with
  | 0, _ | 1, _ | 2, _ | 3, _ | 4, _ | 5, _ | 6, _ | 7, _ | 8, _ => decide +kernel
theorem tq_cell {p : Nat} (hp : p < 11) : isC (tq p) = true ∧ cidx (tq p) = p := by
  match p, hp with
  | 0, _ | 1, _ | 2, _ | 3, _ | 4, _ | 5, _ | 6, _ | 7, _ | 8, _ | 9, _ | 10, _ => decide +kernel
theorem tq_of {a : ByteArray} (h : isC a = true) : tq (cidx a) = a := by
  obtain ⟨c, rfl⟩ := one_of_size (isC_size h)
  have h2 : c ∈ cellsL := by simpa [isC] using h
  show (⟨#[cellsL.getD (cidx ⟨#[c]⟩) 0]⟩ : ByteArray) = _
  rw [(cidx_one h2).2.2]
theorem st_kind {x : St} (h : stOk x = true) : (x.1 = 0 ∧ isC x.2.1 = true ∧ okC x.2.2 = true) ∨ (x.1 = 1 ∧ isC x.2.1 = true ∧ isC x.2.2 = true) := by
  unfold stOk at h
  rw [Bool.or_eq_true] at h
  rcases h with h | h
  · simp only [Bool.and_eq_true, decide_eq_true_eq] at h
    exact .inl ⟨h.1, h.2.1, h.2.2⟩
  · simp only [Bool.and_eq_true, decide_eq_true_eq] at h
    exact .inr ⟨h.1, h.2.1, h.2.2⟩
/-- steps give in every state what they give to names -/
theorem run_names (xs : List St) (h : svalid xs = true) (f : Nat → UInt8) : ∀ k, k ≤ xs.length → ∀ p, p < 11 → runS xs k f p = rdS f ⟨#[runS xs k nmT p]⟩ := by
  intro k
  induction k with
  | zero =>
    intro _ p hp
    rw [runS_zero, runS_zero]
    have := tq_cell hp
    show f p = rdS f (tq p)
    rw [rdS_cell this.1, this.2]
  | succ k ih =>
    intro hk p hp
    have ih := ih (by omega)
    have hkl : k < xs.length := by omega
    rw [runS_succ xs k hkl, runS_succ xs k hkl]
    have hv := svalid_at h k hkl
    generalize xs[k] = x at hv
    generalize runS xs k f = f1 at ih
    generalize runS xs k nmT = g1 at ih
    unfold doS
    rcases st_kind hv with ⟨h1, h2, h3⟩ | ⟨h1, h2, h3⟩
    · rw [if_neg (by omega), if_neg (by omega)]
      unfold updS
      by_cases hpq : p = cidx x.2.1
      · rw [if_pos hpq, if_pos hpq]
        by_cases hc : isC x.2.2 = true
        · rw [rdS_cell hc, rdS_cell hc, ih _ (cidx_lt hc)]
        · have hc' : isC x.2.2 = false := by simpa using hc
          have h4 := fc_one (okC_size h3)
          rw [rdS_digit hc', rdS_digit hc', ← h4, rdS_digit hc']
      · rw [if_neg hpq, if_neg hpq]; exact ih p hp
    · rw [if_pos h1, if_pos h1]
      unfold swS
      by_cases hp1 : p = cidx x.2.1
      · rw [if_pos hp1, if_pos hp1]; exact ih _ (cidx_lt h3)
      · rw [if_neg hp1, if_neg hp1]
        by_cases hp2 : p = cidx x.2.2
        · rw [if_pos hp2, if_pos hp2]; exact ih _ (cidx_lt h2)
        · rw [if_neg hp2, if_neg hp2]; exact ih p hp
/-- what is not touched stays -/
theorem run_stays (xs : List St) (h : svalid xs = true) (f : Nat → UInt8) {p : Nat} (_hp : p < 11) : ∀ k, k ≤ xs.length → tcI xs p k = false → runS xs k f p = f p := by
  intro k
  induction k with
  | zero => intro _ _; rw [runS_zero]
  | succ k ih =>
    intro hk ht
    have hkl : k < xs.length := by omega
    rw [tcI_succ xs p k hkl, Bool.or_eq_false_iff] at ht
    have ih := ih (by omega) ht.1
    rw [runS_succ xs k hkl]
    have hv := svalid_at h k hkl
    have ht2 := ht.2
    generalize xs[k] = x at hv ht2
    generalize runS xs k f = f1 at ih
    unfold tcX at ht2
    rw [Bool.or_eq_false_iff, decide_eq_false_iff_not] at ht2
    have hne : ∀ a, isC a = true → a ≠ tq p → p ≠ cidx a := fun a ha hn e => hn (by rw [e, tq_of ha])
    unfold doS
    rcases st_kind hv with ⟨h1, h2, h3⟩ | ⟨h1, h2, h3⟩
    · rw [if_neg (by omega)]
      unfold updS
      rw [if_neg (hne _ h2 ht2.1)]; exact ih
    · rw [if_pos h1]
      have h4 : x.2.2 ≠ tq p := by simpa [h1] using ht2.2
      unfold swS
      rw [if_neg (hne _ h2 ht2.1), if_neg (hne _ h3 h4)]; exact ih
theorem tcB_pmH {xs : List St} (h : svalid xs = true) {p : Nat} (hp : p < 9) : pmH (tcB xs) (nm p) = tcH xs p := by
  have e : tcB xs = pickB cellsL (tcH xs) 11 := by unfold tcB; rw [h]; rfl
  rw [e, nm_tq hp]
  exact pmH_pick (tcH xs) p (by omega)
/-- the moves that steps do are of touched places -/
theorem eff_touched (xs : List St) : ∀ m ∈ effM xs, m.1 ≠ m.2 ∧ pmH (tcB xs) m.1 = true := by
  intro m hm
  rcases Bool.eq_false_or_eq_true (effOk xs) with ho | ho
  · rw [effM_yes ho] at hm
    have hv : svalid xs = true := by unfold effOk at ho; rw [Bool.and_eq_true] at ho; exact ho.1
    obtain ⟨h1, h2⟩ := List.mem_filter.1 hm
    have h2 : m.1 ≠ m.2 := by simpa using h2
    refine ⟨h2, ?_⟩
    obtain ⟨p, hp, rfl⟩ := List.mem_map.1 h1
    have hp9 : p < 9 := by simpa using hp
    show pmH (tcB xs) (nm p) = true
    rw [tcB_pmH hv hp9, ← tcI_full hv p]
    rcases Bool.eq_false_or_eq_true (tcI xs p xs.length) with ht | ht
    · exact ht
    · exfalso
      have := run_stays xs hv nmT (show p < 11 by omega) xs.length (Nat.le_refl _) ht
      apply h2
      show nm p = ⟨#[effG xs p]⟩
      rw [nm_tq hp9]
      show tq p = ⟨#[runS xs xs.length nmT p]⟩
      rw [this]; rfl
  · rw [effM_no ho] at hm; cases hm
/-- done at once they give to places what the steps give -/
theorem eff_once {xs : List St} (ho : effOk xs = true) {s : ByteArray} (hs : stateV s = true) :
    (mvalid (effM xs) && stateV s) = true ∧ (aoB (effM xs) s).extract 0 9 = (ioB xs s).extract 0 9 ∧ irB xs (effM xs) = true ∧ (aoB (effM xs) s).size = 11 ∧ (ioB xs s).size = 11 := by
  have hv : svalid xs = true := by unfold effOk at ho; rw [Bool.and_eq_true] at ho; exact ho.1
  have hmv : MV (effL (effG xs) 9) := by
    unfold effOk at ho; rw [Bool.and_eq_true] at ho
    simpa [mvalid] using ho.2
  have hM : MV (effM xs) := by rw [effM_yes ho]; exact busyM_MV hmv
  have m1 : mvalid (effM xs) = true := by simpa [mvalid] using hM
  have e1 : aoB (effM xs) s = stB (aoS (tabOf (effM xs)) (ofB s)) := by unfold aoB; rw [m1, hs]; rfl
  have e2 : ioB xs s = stB (runS xs xs.length (ofB s)) := by unfold ioB; rw [hv, hs]; rfl
  refine ⟨by rw [m1, hs]; rfl, ?_, ?_, by rw [e1]; rfl, by rw [e2]; rfl⟩
  · have key : ∀ p, p < 9 → aoS (tabOf (effM xs)) (ofB s) p = runS xs xs.length (ofB s) p := fun p hp => by
      have hk : srcM (effM xs) (nm p) = ⟨#[effG xs p]⟩ := by rw [effM_yes ho, srcM_busy _ _ hmv.2, srcM_effL _ p hp]
      unfold aoS
      rw [if_pos hp, srcM_nm hM hp, hk, run_names xs hv (ofB s) xs.length (Nat.le_refl _) p (by omega)]
      rfl
    rw [e1, e2]
    have e3 : ∀ f : Nat → UInt8, (stB f).extract 0 9 = ⟨#[f 0, f 1, f 2, f 3, f 4, f 5, f 6, f 7, f 8]⟩ := fun f => by
      apply ByteArray.ext
      simp [stB, ByteArray.data_extract]
    rw [e3, e3, key 0 (by omega), key 1 (by omega), key 2 (by omega), key 3 (by omega), key 4 (by omega), key 5 (by omega), key 6 (by omega), key 7 (by omega), key 8 (by omega)]
  · unfold irB sameM
    rw [ho, m1, Bool.true_and, Bool.true_and, Bool.true_and, List.all_eq_true]
    intro p _
    unfold sameAt
    exact decide_eq_true rfl
theorem effM_len (xs : List St) : (effM xs).length ≤ 9 := by
  rcases Bool.eq_false_or_eq_true (effOk xs) with h | h
  · rw [effM_yes h]; exact busyE_le _ 9
  · rw [effM_no h]; exact Nat.zero_le _
theorem ioB_out (xs : List St) (s : ByteArray) (h : (svalid xs && stateV s) = false) : ioB xs s = ⟨#[]⟩ := by unfold ioB; rw [h]; rfl
theorem tcB_size (xs : List St) : (tcB xs).size ≤ 11 := by
  unfold tcB okS
  split
  · exact pickB_size _ _ _
  · exact Nat.zero_le _
end Go.PM
namespace Go.PM
open Go.RowKit
def busyH (xs : List Mv) (p : Nat) : Bool := decide (srcM xs (nm p) ≠ nm p)
/-- the moves that change something, of the first k places in their order -/
def busyF (xs : List Mv) (k : Nat) : List Mv := ((List.range k).filter (busyH xs)).map fun p => (nm p, srcM xs (nm p))
theorem busyF_yes (xs : List Mv) (k : Nat) (h : busyH xs k = true) : busyF xs (k + 1) = busyF xs k ++ [(nm k, srcM xs (nm k))] := by
  simp [busyF, List.range_succ, h]
theorem busyF_no (xs : List Mv) (k : Nat) (h : busyH xs k = false) : busyF xs (k + 1) = busyF xs k := by
  simp [busyF, List.range_succ, h]
theorem busyF_len (xs : List Mv) (k : Nat) : (busyF xs k).length ≤ k := by
  unfold busyF
  rw [List.length_map]
  have := List.length_filter_le (busyH xs) (List.range k)
  simpa using this
theorem key_inj {α β : Type _} {f : α → β} : ∀ {l : List α}, (l.map f).Nodup → ∀ {a b : α}, a ∈ l → b ∈ l → f a = f b → a = b
  | [], _, _, _, ha, _, _ => by cases ha
  | x :: l, h, a, b, ha, hb, e => by
    rw [List.map_cons, List.nodup_cons] at h
    rw [List.mem_cons] at ha hb
    rcases ha with rfl | ha
    · rcases hb with rfl | hb
      · rfl
      · exact absurd (List.mem_map.2 ⟨b, hb, e.symm⟩) h.1
    · rcases hb with rfl | hb
      · exact absurd (List.mem_map.2 ⟨a, ha, e⟩) h.1
      · exact key_inj h.2 ha hb e
theorem srcM_of_mem {xs : List Mv} (h : MV xs) {m : Mv} (hm : m ∈ xs) : srcM xs m.1 = m.2 := by
  unfold srcM
  cases hf : xs.find? (fun x => decide (x.1 = m.1)) with
  | none => exact absurd (List.find?_eq_none.1 hf m hm) (by simp)
  | some x =>
    have e1 : x.1 = m.1 := by simpa using List.find?_some hf
    have := key_inj h.2 (List.mem_of_find?_eq_some hf) hm e1
    subst this; rfl
theorem mem_of_srcM {xs : List Mv} {a : ByteArray} (h : srcM xs a ≠ a) : (a, srcM xs a) ∈ xs := by
  unfold srcM at h ⊢
  cases hf : xs.find? (fun x => decide (x.1 = a)) with
  | none => rw [hf] at h; exact absurd rfl h
  | some x =>
    have e1 : x.1 = a := by simpa using List.find?_some hf
    have e2 := List.mem_of_find?_eq_some hf
    rw [← e1]; exact e2
theorem busy_count {xs : List Mv} (h : MV xs) : (busyM xs).length = (busyF xs 9).length := by
  have n1 : ((busyM xs).map (·.1)).Nodup := h.2.sublist ((List.filter_sublist (l := xs)).map _)
  have n2 : ((busyF xs 9).map (·.1)).Nodup := by
    have e : (busyF xs 9).map (·.1) = ((List.range 9).filter (busyH xs)).map nm := by simp [busyF]
    rw [e]
    have : ∀ l : List Nat, l.Nodup → (∀ p ∈ l, p < 9) → (l.map nm).Nodup := by
      intro l
      induction l with
      | nil => intro _ _; simp
      | cons a l ih =>
        intro h1 h2
        rw [List.nodup_cons] at h1
        rw [List.map_cons, List.nodup_cons]
        refine ⟨fun hm => ?_, ih h1.2 fun p hp => h2 p (by simp [hp])⟩
        obtain ⟨b, hb, e⟩ := List.mem_map.1 hm
        have := nm_inj (h2 b (by simp [hb])) (h2 a (by simp)) e
        subst this; exact h1.1 hb
    exact this _ ((List.nodup_range (n := 9)).sublist List.filter_sublist) (fun p hp => by
      have := (List.mem_filter.1 hp).1; simpa using this)
  have l1 := nodup_le ((busyM xs).map (·.1)) ((busyF xs 9).map (·.1)) n1 (fun a ha => by
    obtain ⟨m, hm, rfl⟩ := List.mem_map.1 ha
    obtain ⟨hm1, hm2⟩ := List.mem_filter.1 hm
    have hok := h.1 m hm1
    unfold mok at hok; rw [Bool.and_eq_true] at hok
    have hp := pidx_spec hok.1
    refine List.mem_map.2 ⟨(nm (pidx m.1), srcM xs (nm (pidx m.1))), ?_, hp.2⟩
    unfold busyF
    refine List.mem_map.2 ⟨pidx m.1, List.mem_filter.2 ⟨by simpa using hp.1, ?_⟩, rfl⟩
    unfold busyH
    rw [hp.2, srcM_of_mem h hm1]
    simp only [decide_eq_true_eq] at hm2 ⊢
    exact fun e => hm2 e.symm)
  have l2 := nodup_le ((busyF xs 9).map (·.1)) ((busyM xs).map (·.1)) n2 (fun a ha => by
    obtain ⟨m, hm, rfl⟩ := List.mem_map.1 ha
    unfold busyF at hm
    obtain ⟨p, hp, rfl⟩ := List.mem_map.1 hm
    obtain ⟨hp1, hp2⟩ := List.mem_filter.1 hp
    unfold busyH at hp2
    have hne : srcM xs (nm p) ≠ nm p := by simpa using hp2
    refine List.mem_map.2 ⟨_, List.mem_filter.2 ⟨mem_of_srcM hne, ?_⟩, rfl⟩
    simp only [decide_eq_true_eq]
    exact fun e => hne e.symm)
  simp only [List.length_map] at l1 l2
  omega
end Go.PM
namespace Go.PM
open Go.RowKit
def hasT (t : Nat → ByteArray) (p : Nat) : Bool := decide (t p ≠ emp)
def mvT (t : Nat → ByteArray) (pre : List Nat) : List Mv := (pre.filter (hasT t)).map fun p => (nm p, t p)
theorem mvT_no (t : Nat → ByteArray) (pre : List Nat) (p : Nat) (h : t p = emp) : mvT t (pre ++ [p]) = mvT t pre := by
  have : hasT t p = false := by simp [hasT, h]
  simp [mvT, this]
theorem mvT_yes (t : Nat → ByteArray) (pre : List Nat) (p : Nat) (h : t p ≠ emp) : mvT t (pre ++ [p]) = mvT t pre ++ [(nm p, t p)] := by
  have : hasT t p = true := by simp [hasT, h]
  simp [mvT, this]
theorem mvT_pre (t : Nat → ByteArray) {a b : List Nat} (h : a <+: b) : mvT t a <+: mvT t b := by
  obtain ⟨c, rfl⟩ := h
  rw [mvT, mvT, List.filter_append, List.map_append]
  exact List.prefix_append _ _
end Go.PM
namespace Go.Proofs.YtplapaojgcloaaaGreatDoor
open Go.RowKit Go.PM
attribute [local go_sem] Oper.semAt_some

set_option maxRecDepth 100000 in
set_option maxHeartbeats 2000000 in
theorem moves_iter (t : Nat → ByteArray) :
    Iter 2 Fence.wide 4 Tryz.prog 60 (fun y => #[tabX t] ++ #[y] ++ #[]) (fun m : Mv => #[.agg #[.string m.1, .string m.2]]) (mvT t (List.range 9)) := by
  intro l J Jx W hJ hJx hY h0
  change CallsIn _ _ _ _ #[tabV t, .func (.yield l) #[] #[]] W _
  refine callsIn_of_wp_marks Tryz.func60 rfl trivial ?_ rfl
  simp only [Tryz.ntmps60, List.size_toArray, List.length_cons, List.length_nil, Nat.reduceAdd, Nat.reduceSub, Array.replicate_succ, Array.replicate_zero, List.push_toArray, List.append_toArray, List.nil_append, List.cons_append]
  obtain ⟨W0, hW0⟩ : ∃ W0 : World, W0 = (W.alloc (.cells (tabC t) 53)).alloc (.cells #[.func (.yield l) #[] #[]] 119) := ⟨_, rfl⟩
  have hS0 : W0.heap.size = W.heap.size + 2 := by rw [hW0]; simp only [World.size_alloc]
  have hA0 : At W0 W.heap.size 53 (tabC t) := by rw [hW0]; exact (At.new _ _ _).alloc _
  have hA1 : At W0 (W.heap.size + 1) 119 #[.func (.yield l) #[] #[]] := by
    rw [hW0]; have := At.new (W.alloc (.cells (tabC t) 53)) 119 #[.func (.yield l) #[] #[]]
    rwa [World.size_alloc] at this
  have hJ0 : J [] W0 := by rw [hW0]; exact hJ.alloc _ (hJ.alloc _ h0)
  have hN0 : KeepsNew W.heap.size W W0 := by
    rw [hW0]; exact KeepsNew.below (((Below.refl _ _).alloc (Nat.le_refl _) _).alloc (by simp) _)
  gi_wp2
  rw [← hW0]
  clear hW0
  refine range_law (F := Fence.wide) (gf := 58) (lf := #[.int .i64 9]) (lb := #[]) rfl (by decide) rfl trivial (fun args w => rfl) (encs := fun p : Nat => #[.int .i64 p]) (xs := List.range 9)
    (below_iter _ _ trivial rfl (by decide)) (fun _ => rfl)
    (fun pre A => J (mvT t pre) A ∧ At A W.heap.size 53 (tabC t) ∧ At A (W.heap.size + 1) 119 #[.func (.yield l) #[] #[]])
    (fun c pre A => c = .ret ∧ ∃ pre2, pre2 <+: mvT t (List.range 9) ∧ Jx pre2 A) ?_ ?_ ?_ (fun p => { tmps := #[tabV t, .func (.yield l) #[] #[], .pointer (some ⟨W.heap.size, 0, none⟩), .pointer (some ⟨W.heap.size + 1, 0, none⟩), .int .i64 p, .func (.func 58) #[.int .i64 9] #[], .int .i64 p, undef, undef, undef, undef, undef, undef, undef, undef, undef, undef, undef, undef, undef, undef, undef], defers := [] }) ?_ ?_ ?_ ?_
  · rintro s A A' row ⟨h1, h2, h3⟩ hg hr
    have hr' : ∀ r, row = some r → W.heap.size + 2 ≤ r := fun r e => by have := (hr r e).1; omega
    have hne : ∀ b, b < W.heap.size + 2 → some b ≠ row := fun b hb e => by have := hr' _ e.symm; omega
    exact ⟨hJ _ A A' row h1 hg (fun r e => ⟨by have := hr' r e; omega, (hr r e).2⟩), h2.grown hg (hne _ (by omega)), h3.grown hg (hne _ (by omega))⟩
  · rintro c s A A' row ⟨h1, pre2, h2, h3⟩ hg hr
    have hr' : ∀ r, row = some r → W.heap.size + 2 ≤ r := fun r e => by have := (hr r e).1; omega
    exact ⟨h1, pre2, h2, hJx _ A A' row h3 hg (fun r e => ⟨by have := hr' r e; omega, (hr r e).2⟩)⟩
  · exact ⟨hJ0, hA0, hA1⟩
  · intro l p W Kc hK
    gi_wp2
    exact hK
  · clear hJ0 hA0 hA1 hN0
    rintro l2 pre p A ⟨h1, h2, h3⟩ hp hsz
    have hp9 : p < 9 := by
      have := hp.mem (List.mem_append_right _ (List.mem_singleton_self p))
      simpa using this
    have i0 : (0 : Int) ≤ (p : Int) := by omega
    have i1 : (p : Int) < 9 := by omega
    have hpc := (h2.cell p).trans (tabC_at t p hp9)
    have hyc : A.drew.cell? ⟨W.heap.size + 1, 0, none⟩ = some (.func (.yield l) #[] #[]) := h3.cell 0
    have hpd : A.drew.cell? ⟨W.heap.size, p, none⟩ = some (.string (t p)) := hpc
    clear hpc
    by_cases he : t p = emp
    · have hpe : A.drew.cell? ⟨W.heap.size, p, none⟩ = some (.string ⟨#[]⟩) := by rw [hpd, he]
      have HM := Lib.hid (mvT_no t pre p he)
      clear he hpd
      gi_wp2
      refine region_quiet_inRound (F := Fence.wide) (C := fun w' => w' = A.drew) rfl (by kernel_rfl) (by kernel_rfl) (by kernel_rfl) rfl ?_
      simp only
      repeat (first | gi_big_quiet_step (fail) | (refine BigFrame.wpQuietIn_skip (fun _ _ _ _ => trivial) rfl ?_; simp only [Act.put, List.setIfInBounds_toArray, List.set_cons_succ, List.set_cons_zero]))
      refine wpQuietIn_nil ?_
      intro w' hw'
      subst hw'
      gi_wp2
      exact ⟨(KeepsNew.drew A).from, KeepsIn.zero (Nat.le_refl _), by rw [HM.out]; exact hJ _ A A.drew none h1 ⟨rfl, rfl, rfl, Nat.le_refl _, fun _ _ _ => rfl⟩ (fun r e => by cases e), h2, h3⟩
    · have hne : (t p).toList.isEmpty = false := by
        rw [ByteArray.toList_eq]
        cases hl : (t p).data.toList with
        | nil => exact absurd (Go.WideShapes.bytes_inj (by rw [hl])) he
        | cons a l => rfl
      have HM := Lib.hid (mvT_yes t pre p he)
      have hpre : mvT t pre ++ [(nm p, t p)] <+: mvT t (List.range 9) := by rw [← mvT_yes t pre p he]; exact mvT_pre t hp
      have hJd : J (mvT t pre) A.drew := hJ _ A A.drew none h1 ⟨rfl, rfl, rfl, Nat.le_refl _, fun _ _ _ => rfl⟩ (fun r e => by cases e)
      obtain ⟨fn, tmps, assign, body, hy, hR⟩ := yieldAt_wide (m := 1) (hY (mvT t pre) (nm p, t p) A.drew hJd (by show _ ≤ A.heap.size; omega) hpre)
      have hnm := fun W' => name_c p hp9 W'
      clear he
      generalize t p = q at *
      generalize nm p = a at *
      gi_wp2
      refine region_tail_inRound (F := Fence.wide) (C := fun w' => w' = A.drew) 12 rfl (by kernel_rfl) (by kernel_rfl) (by kernel_rfl) rfl ?_
      simp only [List.take_succ_cons, List.take_zero, List.drop_succ_cons, List.drop_zero]
      gi_big_quiet_step (fail)
      gi_big_quiet_step (fail)
      gi_big_quiet_step (fail)
      gi_big_quiet_step (fail)
      gi_big_quiet_step (fail)
      gi_big_quiet_step (fail)
      gi_big_quiet_step (fail)
      refine BigFrame.wpQuietIn_want (fun _ _ _ _ => trivial) rfl (fun K hK => ?_)
      gi_big_quiet_op
      refine ⟨_, callsIn_wide.2 ((hnm _).mono (fun e w' h => ⟨h.1, h.2.symm⟩)), hK _ ?_⟩
      clear hK K
      gi_big_quiet_step (fail)
      gi_big_quiet_step (fail)
      gi_big_quiet_step (fail)
      gi_big_quiet_step (fail)
      refine wpQuietIn_nil ?_
      intro w' hw'
      subst hw'
      gi_wp2
      refine hR.mono ?_
      rintro e A2 (⟨rfl, hJ3, hKN, hKF⟩ | ⟨rfl, hJ3, _, hKF⟩)
      · have k2 : At A2 W.heap.size 53 (tabC t) := (hKN.same _ (Nat.le_refl _) (by omega)).trans h2
        have k3 : At A2 (W.heap.size + 1) 119 #[.func (.yield l) #[] #[]] := (hKN.same _ (by omega) (by omega)).trans h3
        have kN : A.heap.size ≤ A2.heap.size := hKN.size
        have kF : KeepsFrom W0.heap.size A A2 := ⟨hKF.size, fun k o hk h4 h5 => hKF.same k o (by omega) h4 h5⟩
        clear h1 h2 h3 hJd hY
        gi_wp2
        exact ⟨kF, KeepsIn.zero kN, by rw [HM.out]; exact hJ3, k2, k3⟩
      · have kF : KeepsFrom W0.heap.size A A2 := ⟨hKF.size, fun k o hk h4 h5 => hKF.same k o (by omega) h4 h5⟩
        clear h1 h2 h3 hJd hY
        gi_wp2
        exact ⟨kF, rfl, _, hpre, hJ3⟩
  · clear hJ0 hA0 hA1 hN0 hY
    intro D A hD hI hd
    obtain ⟨h1, h2, h3⟩ := hI
    gi_wp2
    refine ⟨by simp, .inl ⟨D, _, rfl, run_takeDeferred hd, ?_⟩⟩
    refine ⟨_, results_none rfl _ _ _, ⟨_, rfl⟩, .inl ?_⟩
    exact hJ.putObj _ h1 (by omega) hd rfl
  · clear hJ0 hA0 hA1 hN0 hY
    rintro D c pre A hD hp ⟨rfl, pre2, hp2, h1⟩ hd
    gi_wp2
    refine ⟨by simp, .inl ⟨D, _, rfl, run_takeDeferred hd, ?_⟩⟩
    refine ⟨_, results_none rfl _ _ _, ⟨_, rfl⟩, .inr ⟨pre2, hp2, ?_⟩⟩
    exact hJx.putObj _ h1 (by omega) hd rfl
end Go.Proofs.YtplapaojgcloaaaGreatDoor
namespace Go.PM
open Go.RowKit
variable {F : Fence} {n : Nat} {P : Program}
/-- The same where the assignment to the loop's variables lays blocks. -/
theorem range_law2 {α : Type} {g : Operand} {ps : Array Tmp} {assign body : Code} {Q : Exit → Act → World → Prop} {a : Act} {w : World} (hro : F.round = none) (h1 : 1 ≤ n)
    {gf : Nat} {lf lb : Array Value} (hg : a.eval g = .func (.func gf) lf lb) (hFg : F.fn gf) (eg : ∀ args w, (callFunc gf args).run P w = .ok (.enter gf args) w)
    {encs : α → Array Value} {xs : List α} {κ : Nat} (hit : Iter κ F (n - 1) P gf (fun y => lf ++ #[y] ++ lb) encs xs) (hps : ∀ x, (encs x).size = ps.size)
    (I : List α → World → Prop) (Ix : Code → List α → World → Prop) (hI : OwnFrom w.heap.size I) (hIx : ∀ c, OwnFrom w.heap.size (Ix c)) (h0 : I [] w) (Ax : α → Act → World → Prop) (hAx : ∀ x a', OwnFrom w.heap.size (fun (_ : Unit) W => Ax x a' W))
    (hassign : ∀ (l : Nat) (pre : List α) (x : α) (W : World) (K : Act → World → Prop), I pre W → pre ++ [x] <+: xs → w.heap.size + 2 + κ ≤ W.heap.size → (∀ a' W', KeepsNew w.heap.size W W' → I pre W' → Ax x a' W' → K a' W') →
      assign.wpIn (F.inRound l) (n - 1 - 1) P (Exit.then K (fun _ _ _ => False)) { tmps := (ps.zip (encs x)).foldl (fun t (p, v) => t.setIfInBounds p v) a.tmps, defers := [] } W)
    (hbody : ∀ (l : Nat) (pre : List α) (x : α) (a' : Act) (W : World), I pre W → Ax x a' W → pre ++ [x] <+: xs → w.heap.size + 2 + κ ≤ W.heap.size → body.wpIn (F.inRound l) (n - 1 - 1) P (ownPostG w.heap.size (KeepsIn (w.heap.size + 2) κ) I Ix (pre ++ [x]) W) a' W)
    (hdone : ∀ (D : Nat) (W : World), w.heap.size ≤ D → I xs W → W.heap[D]? = some (.deferred (some [])) → Q .normal { a with defers := { target := .collected D, args := #[] } :: a.defers } W)
    (hstop : ∀ (D : Nat) (c : Code) (pre : List α) (W : World), w.heap.size ≤ D → pre <+: xs → Ix c pre W → W.heap[D]? = some (.deferred (some [])) → c.wpIn F n P Q { a with defers := { target := .collected D, args := #[] } :: a.defers } W) :
    (Code.rangeFunc g ps assign body).wpIn F n P Q a w := by
  refine wpIn_rangeFunc fun fn hfn => ?_
  rw [hro]
  have key : ∃ rc : LoopState → Option Code → Loop, rc = fun s j => { state := s, pending := j, fn, tmps := a.tmps, params := ps, assign, body, defers := w.heap.size } := ⟨_, rfl⟩
  obtain ⟨rc, hrc⟩ := key
  let V := (w.alloc (.deferred (some []))).alloc (.loop (rc .ready none))
  -- the two blocks of book-keeping, and that the caller's own facts outlast what is done to them
  let Bk : LoopState → Option Code → World → Prop := fun s j A => A.heap[w.heap.size + 1]? = some (.loop (rc s j)) ∧ A.heap[w.heap.size]? = some (.deferred (some []))
  have bkput : ∀ {s j s' j' A}, Bk s j A → Bk s' j' (A.putObj (w.heap.size + 1) (.loop (rc s' j'))) := fun h =>
    ⟨World.putObj_heap_same (Array.getElem?_eq_some_iff.1 h.1).1, (World.putObj_heap_other (by omega)).trans h.2⟩
  have hVs : V.heap.size = w.heap.size + 2 := by simp [V, World.size_alloc]
  have bknew : ∀ {s j A A' row}, Bk s j A → A.grownBy A' row → (∀ r, row = some r → V.heap.size ≤ r ∧ ∃ o : Obj, A.heap[r]? = some o ∧ o.isCells = false) → Bk s j A' := fun h hg' hr =>
    ⟨(hg'.block _ (Array.getElem?_eq_some_iff.1 h.1).1 (fun e => by have := (hr _ e.symm).1; omega)).trans h.1, (hg'.block _ (Array.getElem?_eq_some_iff.1 h.2).1 (fun e => by have := (hr _ e.symm).1; omega)).trans h.2⟩
  have hV : Bk .ready none V := by
    refine ⟨?_, ?_⟩
    · have := World.alloc_heap_new (w.alloc (.deferred (some []))) (.loop (rc .ready none)); rwa [World.size_alloc] at this
    · exact (Below.heap_alloc _ _ _ (by simp)).trans (World.alloc_heap_new w _)
  have hIV : I [] V := hI.alloc _ (hI.alloc _ h0)
  refine ⟨w.heap.size + 1, [{ target := .collected w.heap.size, args := #[] }], V, { target := .fn (.func gf) lb, args := lf ++ #[.func (.yield (w.heap.size + 1)) #[] #[]] }, V, gf,
    lf ++ #[.func (.yield (w.heap.size + 1)) #[] #[]] ++ lb, V, ?_, ?_, ?_, ?_, fun _ => h1, ?_⟩
  · have := run_enterLoop_outer (P := P) (w := w) fn a.tmps ps assign body
    rw [this]; simp only [V, hrc]
  · simp only [resolve, hg]
    simp [go_sem]
  · intro f' hf'
    simp [Target.leads] at hf'
    subst hf'; exact hFg
  · simp [invoke, go_sem, eg]
  refine (hit (w.heap.size + 1) (fun pre A => I pre A ∧ Bk .ready none A) (fun pre A => ∃ c, Ix c pre A ∧ Bk .done (some c) A) V
    (fun pre A A' row h hg' hr => ⟨hI pre A A' row h.1 hg' (fun r e => ⟨by have := (hr r e).1; omega, (hr r e).2⟩), bknew h.2 hg' hr⟩)
    (fun pre A A' row ⟨c, h, hb⟩ hg' hr => ⟨c, hIx c pre A A' row h hg' (fun r e => ⟨by have := (hr r e).1; omega, (hr r e).2⟩), bknew hb hg' hr⟩) ?_ ⟨hIV, hV⟩).mono ?_
  · rintro pre x A ⟨hi, hb⟩ hsz hpx
    have hy := run_yield (P := P) (args := encs x) hb.1 (by rw [hrc]; exact hps x)
    rw [hrc] at hy
    refine ⟨fn, _, assign, body, hy, roundIn_of_wpIn hfn (hassign _ pre x A _ hi hpx (by omega) ?_)⟩
    intro a' Wa hkn hia hax
    have hlt := (Array.getElem?_eq_some_iff.1 hb.1).1
    replace hb : Bk .ready none Wa := ⟨(hkn.same _ (by omega) hlt).trans hb.1, (hkn.same _ (Nat.le_refl _) (by omega)).trans hb.2⟩
    clear hy hi
    refine ⟨_, run_beginRound hb.1 (by rw [hrc]), ?_⟩
    have hknV : KeepsIn V.heap.size κ A Wa := hkn.toIn (by omega) hsz
    have hkfV : KeepsFrom V.heap.size A Wa := (hkn.mono (by omega)).from
    have hszA : A.heap.size ≤ Wa.heap.size := hkn.size
    replace hsz := Nat.le_trans hsz hszA
    clear hkn
    revert hknV hkfV hszA
    generalize A = A0
    intro hknV hkfV hszA
    obtain ⟨A, rfl⟩ : ∃ A, A = Wa := ⟨_, rfl⟩
    have hb2 : Bk .busy none (A.putObj (w.heap.size + 1) (.loop (rc .busy none))) := bkput hb
    have e2 : ({ rc .ready none with state := .busy } : Loop) = rc .busy none := by rw [hrc]
    rw [e2]
    refine wpIn_mono (hbody _ pre x a' _ (hI.putObj _ hia (by omega) hb.1 rfl) ((hAx x a').putObj (s := ()) _ hax (by omega) hb.1 rfl) hpx (by simp [World.putObj]; omega)) ?_
    have fin : ∀ (j : Option Code) (C : World), KeepsFrom w.heap.size (A.putObj (w.heap.size + 1) (.loop (rc .busy none))) C →
        (Instr.endRound (w.heap.size + 1) j).run P C = .ok (.bool j.isNone) (C.putObj (w.heap.size + 1) (.loop (rc (if j.isNone then .ready else .done) j))) ∧ Bk .busy none C := fun j C hk => by
      have h1 := hk.same _ _ (by omega) hb2.1 rfl
      have h2 := hk.same _ _ (Nat.le_refl _) hb2.2 rfl
      have h3 := run_endRound (P := P) j h1
      refine ⟨?_, h1, h2⟩
      rw [h3]; rw [hrc]
    have kfin : ∀ (o : Obj) (C : World), KeepsFrom w.heap.size (A.putObj (w.heap.size + 1) (.loop (rc .busy none))) C → KeepsFrom V.heap.size A0 (C.putObj (w.heap.size + 1) o) := fun o C hk => by
      refine hkfV.trans ?_
      refine ⟨by have := hk.size; simp [World.putObj] at this ⊢; omega, fun k x hk1 hk2 hk3 => ?_⟩
      rw [World.putObj_heap_other (by omega)]
      exact hk.same k x (by omega) (by rw [World.putObj_heap_other (by omega)]; exact hk2) hk3
    rintro e a3 C hp
    cases e with
    | normal =>
      obtain ⟨hk, hkn, hi3⟩ := hp
      obtain ⟨hr, hb3⟩ := fin none C hk
      refine ⟨_, _, hr, .inl ⟨rfl, ⟨hI.putObj _ hi3 (by omega) hb3.1 rfl, bkput hb3⟩, ?_, kfin _ C hk⟩⟩
      refine ⟨by have := hkn.size; simp [World.putObj] at this ⊢; omega, fun k hk1 hk2 => ?_⟩
      rw [World.putObj_heap_other (by omega), hkn.same k (by omega) (by omega), World.putObj_heap_other (by omega)]
      exact hknV.same k hk1 hk2
    | ret =>
      obtain ⟨hk, hi3⟩ := hp
      obtain ⟨hr, hb3⟩ := fin (some .ret) C hk
      exact ⟨_, _, hr, .inr ⟨rfl, ⟨.ret, (hIx _).putObj _ hi3 (by omega) hb3.1 rfl, bkput hb3⟩, by have := hk.size; simp [World.putObj] at this ⊢; omega, kfin _ C hk⟩⟩
    | exit id =>
      obtain ⟨hk, hi3⟩ := hp
      obtain ⟨hr, hb3⟩ := fin (some (.exit id)) C hk
      exact ⟨_, _, hr, .inr ⟨rfl, ⟨.exit id, (hIx _).putObj _ hi3 (by omega) hb3.1 rfl, bkput hb3⟩, by have := hk.size; simp [World.putObj] at this ⊢; omega, kfin _ C hk⟩⟩
    | goto t =>
      obtain ⟨hk, hi3⟩ := hp
      obtain ⟨hr, hb3⟩ := fin (some (.goto t)) C hk
      exact ⟨_, _, hr, .inr ⟨rfl, ⟨.goto t, (hIx _).putObj _ hi3 (by omega) hb3.1 rfl, bkput hb3⟩, by have := hk.size; simp [World.putObj] at this ⊢; omega, kfin _ C hk⟩⟩
    | panic ch => exact hp.elim
    | outgrown => exact hp.elim
  · rintro e C ⟨⟨v, rfl⟩, (⟨hi, hb⟩ | ⟨pre, hp, c, hi, hb⟩)⟩
    · have h3 := run_endLoop (P := P) hb.1 (by rw [hrc]; simp)
      refine ⟨none, _, by rw [h3, hrc], hdone _ _ (Nat.le_refl _) (hI.putObj _ hi (by omega) hb.1 rfl) ((World.putObj_heap_other (by omega)).trans hb.2)⟩
    · have h3 := run_endLoop (P := P) hb.1 (by rw [hrc]; simp)
      refine ⟨some c, _, by rw [h3, hrc], hstop _ c pre _ (Nat.le_refl _) hp ((hIx c).putObj _ hi (by omega) hb.1 rfl) ((World.putObj_heap_other (by omega)).trans hb.2)⟩
end Go.PM
namespace Go.PM
open Go.RowKit
theorem mvT_len (t : Nat → ByteArray) {pre : List Mv} (h : pre <+: mvT t (List.range 9)) : pre.length ≤ 9 := by
  have h1 := h.length_le
  have h2 : (mvT t (List.range 9)).length ≤ 9 := by
    unfold mvT
    rw [List.length_map]
    have := List.length_filter_le (hasT t) (List.range 9)
    simpa using this
  omega
theorem own_box_ne {w : World} {base : Nat} {e t : TypeId} {size n b : Nat} {v : Value} {cs : List Value} {c : Array Value} (h : w.ownsRow base e size v n cs) (hA : At w b t c) (hne : e ≠ t) : some b ≠ v.ownBlock := by
  rcases h.2 with ⟨rfl, _⟩ | ⟨g, cap, cur, rfl, _, hg, _⟩
  · simp [Value.ownBlock]
  · intro e'
    simp only [Value.ownBlock, Option.some.injEq] at e'
    subst e'
    unfold At at hA
    rw [hA] at hg
    cases hg
    exact hne rfl
/-- a row of one's own outlasts the turn of a block that is no cells -/
theorem own_turn {w w' : World} {base : Nat} {e : TypeId} {size n : Nat} {v : Value} {cs : List Value} {row : Option Nat} (h : w.ownsRow base e size v n cs) (hg : w.grownBy w' row) (hr : ∀ r, row = some r → ∃ o : Obj, w.heap[r]? = some o ∧ o.isCells = false) : w'.ownsRow base e size v n cs := by
  refine h.kept hg ?_
  rcases h.2 with ⟨rfl, _⟩ | ⟨g, cap, cur, rfl, _, hh, _⟩
  · exact .inl rfl
  · refine .inr fun e' => ?_
    obtain ⟨o, ho, hc⟩ := hr g e'.symm
    rw [hh] at ho
    cases ho
    cases hc
theorem At.turn {w w' : World} {b : Nat} {t : TypeId} {c : Array Value} {row : Option Nat} (h : At w b t c) (hg : w.grownBy w' row) (hr : ∀ r, row = some r → ∃ o : Obj, w.heap[r]? = some o ∧ o.isCells = false) : At w' b t c := by
  refine h.grown hg fun e' => ?_
  obtain ⟨o, ho, hc⟩ := hr b e'.symm
  unfold At at h
  rw [h] at ho
  cases ho
  cases hc
end Go.PM
namespace Go.Proofs.YtplapaojgcloaaaGreatDoor
open Go.RowKit Go.PM
attribute [local go_sem] Oper.semAt_some

theorem appIn_mv {F : Fence} {k : Nat} {ops : Array Oper} {rest : List Oper} {o : Oper} {a : Act} {Q : Exit → Act → World → Prop} {w : World} (hgd : o.guard = none) (s x : Operand)
    (ho : o.op = .call { callee := .builtin .append, args := #[s, x], argTypes := #[23, 23] })
    (base : Nat) (v : Value) (ys : List Mv) (m : Mv) (ad : Addr) (c : Nat) (hs : a.eval s = v) (hx : a.eval x = .slice (some ad) 1 c)
    (hown : w.ownsRow base 37 2 v ys.length (mcells ys)) (hnew : ∀ j u, [Value.string m.1, Value.string m.2][j]? = some u → w.cell? (ad.add j) = some u)
    (hlen : ys.length ≤ 1048576) (hbase : base ≤ w.heap.size)
    (h : ∀ v' w', w'.ownsRow base 37 2 v' (ys ++ [m]).length (mcells (ys ++ [m])) → w.grownBy w' v.ownBlock → wpListIn F k Tryz.prog ops Q rest (a.put o.dst v') w') : wpListIn F k Tryz.prog ops Q (o :: rest) a w := by
  obtain ⟨i0, hi0, hz0, hz1, hz2⟩ := info_parts infoMv
  refine wpListIn_append_own w hgd s x _ ho base 37 i0 _ 2 32 Tryz.underlying23 hi0 hz0 hz1 hz2 rfl (by omega) v ys.length (mcells ys) hs hown ad 1 c [Value.string m.1, Value.string m.2] hx rfl hnew
    (by intro u hu; simp at hu; rcases hu with rfl | rfl <;> rfl) (by simp only [maxLen]; omega) (by omega) hbase ?_
  intro v' w' h2 h3 _
  refine h v' w' ?_ h3
  rw [mcells_append, List.length_append]
  simpa [mcells] using h2

set_option maxRecDepth 100000 in
set_option maxHeartbeats 2000000 in
/-- the moves of a table, in the order of their places -/
theorem list_c (t : Nat → ByteArray) (w : World) :
    Calls Tryz.prog 29 #[tabX t] w fun e w' => ∃ v', e = .returned v' ∧ w'.ownsRow w.heap.size 37 2 v' (mvT t (List.range 9)).length (mcells (mvT t (List.range 9))) ∧ Below w.heap.size w w' := by
  refine (callsIn_wide (n := 5)).1 ?_
  refine callsIn_of_wp_marks Tryz.func29 rfl trivial ?_ rfl
  simp only [Tryz.ntmps29, List.size_toArray, List.length_cons, List.length_nil, Nat.reduceAdd, Nat.reduceSub, Array.replicate_succ, Array.replicate_zero, List.push_toArray, List.append_toArray, List.nil_append, List.cons_append]
  gi_wp2
  obtain ⟨W0, hW0⟩ : ∃ W0 : World, W0 = (w.alloc (.cells (tabA t) 53)).alloc (.cells #[.slice none 0 0] 23) := ⟨_, rfl⟩
  have hS0 : W0.heap.size = w.heap.size + 2 := by rw [hW0]; simp only [World.size_alloc]
  have hB0 : Below w.heap.size w W0 := by rw [hW0]; (repeat' (first | (with_reducible exact Below.refl _ _) | (with_reducible assumption) | (with_reducible refine Below.alloc ?_ ?_ _) | (with_reducible refine Below.drew ?_) | (with_reducible refine Below.setCell ?_ ?_ _) | (with_reducible exact Nat.le_refl _) | omega | ((repeat (first | rewrite [World.size_alloc] | rewrite [World.size_setCell] | rewrite [World.size_drew])); omega) | (simp; omega) | (simp; done)))
  have hA0 : At W0 (w.heap.size + 1) 23 #[.slice none 0 0] := by
    rw [hW0]; have := At.new (w.alloc (.cells (tabA t) 53)) 23 #[.slice none 0 0]
    rwa [World.size_alloc] at this
  rw [← hW0]
  clear hW0
  refine range_law2 (F := Fence.wide) (gf := 60) (lf := #[tabX t]) (lb := #[]) rfl (by decide) rfl trivial (fun args w => rfl) (encs := fun m : Mv => #[.agg #[.string m.1, .string m.2]]) (xs := mvT t (List.range 9)) (κ := 2)
    (moves_iter t) (fun _ => rfl)
    (fun pre W => ∃ o, At W (w.heap.size + 1) 23 #[o] ∧ W.ownsRow (W0.heap.size + 4) 37 2 o pre.length (mcells pre) ∧ Below w.heap.size w W)
    (fun _ _ _ => False) ?_ (fun _ => ownFrom_pure _ _) ?_
    (fun m a' W => ∃ b, At W b 37 #[.string m.1, .string m.2] ∧ a' = { tmps := #[tabX t, .pointer (some ⟨w.heap.size, 0, none⟩), .slice none 0 0, .pointer (some ⟨w.heap.size + 1, 0, none⟩), .pointer (some ⟨b, 0, none⟩), tabX t, .func (.func 60) #[tabX t] #[], .agg #[.string m.1, .string m.2], undef, undef, undef, undef, undef], defers := [] }) ?_ ?_ ?_ ?_ ?_
  · rintro s A A' row ⟨o, k1, k2, k3⟩ hg hr
    exact ⟨o, k1.turn hg (fun r e => (hr r e).2), own_turn k2 hg (fun r e => (hr r e).2), k3.trans (below_grown hg k3.size (fun g e => by have := (hr g e).1; omega))⟩
  · exact ⟨_, hA0, ⟨rfl, .inl ⟨rfl, rfl⟩⟩, hB0⟩
  · rintro m a' s A A' row ⟨b, k1, k2⟩ hg hr
    exact ⟨b, k1.turn hg (fun r e => (hr r e).2), k2⟩
  · intro l pre m W K hI hp hsz hK
    obtain ⟨o, k1, k2, k3⟩ := hI
    have r1 : ∃ o, At (W.alloc (.cells #[.string m.1, .string m.2] 37)) (w.heap.size + 1) 23 #[o] ∧ (W.alloc (.cells #[.string m.1, .string m.2] 37)).ownsRow (W0.heap.size + 4) 37 2 o pre.length (mcells pre) ∧ Below w.heap.size w (W.alloc (.cells #[.string m.1, .string m.2] 37)) :=
      ⟨o, k1.alloc _, own_keep k2 ((Below.refl _ _).alloc (Nat.le_refl _) _), k3.alloc k3.size _⟩
    have r2 := At.new W 37 #[.string m.1, .string m.2]
    have r3 : KeepsNew W0.heap.size W (W.alloc (.cells #[.string m.1, .string m.2] 37)) := KeepsNew.below ((Below.refl _ _).alloc (Nat.le_refl _) _)
    clear k1 k2 k3
    gi_wp2
    exact hK _ _ r3 r1 ⟨_, r2, rfl⟩
  · rintro l pre m a' W ⟨o, k1, k2, k3⟩ ⟨b, q1, rfl⟩ hp hsz
    have hlen := mvT_len t (List.IsPrefix.trans (List.prefix_append pre [m]) hp)
    have hpn : (pre ++ [m]).length = pre.length + 1 := by simp
    have c1 : W.cell? ⟨b, 0, none⟩ = some (.string m.1) := q1.cell 0
    have c2 : W.cell? ⟨b, 1, none⟩ = some (.string m.2) := q1.cell 1
    have c3 : W.cell? ⟨w.heap.size + 1, 0, none⟩ = some o := k1.cell 0
    have hl1 := k1.lt
    have hnw := two_new W (.string m.1) (.string m.2) 37
    gi_wp2_with (gi_at_builtin; refine held ?_)
    unfold Held
    refine appIn_mv rfl (.tmp 8) (.tmp 10) rfl (W0.heap.size + 4) o pre m ⟨W.heap.size, 0, none⟩ 1 (by rfl) (by rfl) (own_keep k2 ((Below.refl _ _).alloc (Nat.le_refl _) _)) hnw (by omega) (by simp; omega) ?_
    intro o' W3 hown3 hgrow3
    have j1 : At W3 (w.heap.size + 1) 23 #[o] := (k1.alloc (.cells #[.string m.1, .string m.2] 37)).grown hgrow3 (own_box_ne k2 k1 (by decide))
    have d1 := j1.cell 0
    have d2 := j1.frozen 0
    have hge := own_block_ge k2
    have hK3 : KeepsFrom W0.heap.size W W3 := by
      refine ⟨Nat.le_trans (by simp) hgrow3.size, fun x ob hx1 hx2 hx3 => ?_⟩
      have hx4 := (Array.getElem?_eq_some_iff.1 hx2).1
      refine (hgrow3.block x (by simp; omega) (fun e => ?_)).trans ((Below.heap_alloc _ _ _ hx4).trans hx2)
      rcases k2.2 with ⟨rfl, _⟩ | ⟨g, cap, cur, rfl, _, hh, _⟩
      · cases e
      · cases e
        rw [hh] at hx2
        cases hx2
        cases hx3
    have hI3 : KeepsIn (W0.heap.size + 2) 2 W W3 := by
      refine ⟨Nat.le_trans (by simp) hgrow3.size, fun x hx1 hx2 => ?_⟩
      refine (hgrow3.block x (by simp; omega) (fun e => ?_)).trans (Below.heap_alloc _ _ _ (by omega))
      have := hge x e.symm
      omega
    have hB3 : Below w.heap.size w W3 := (k3.alloc k3.size _).trans (below_grown hgrow3 (by have := k3.size; simp; omega) (fun g e => by have := hge g e; omega))
    have hne3 := own_box_ne hown3 j1 (by decide)
    rw [hpn] at hown3
    obtain ⟨A3, cap3, rfl, _⟩ := Rd.of_own hown3
    have m1 : At (W3.setCell ⟨w.heap.size + 1, 0, none⟩ (.slice A3 (pre.length + 1) cap3)) (w.heap.size + 1) 23 #[.slice A3 (pre.length + 1) cap3] := j1.set 0 _
    clear hnw c1 c2 c3 k1 k2 k3 q1 hgrow3 hge
    gi_wp2
    refine ⟨hK3.trans ((KeepsOthers.setCell _ _ _).from _), ⟨by simp [World.size_setCell]; exact hI3.size, fun x hx1 hx2 => (heap_setCell_other _ _ _ _ (by simp; omega)).trans (hI3.same x hx1 hx2)⟩, _, m1, ?_, hB3.setCell (by simp) _⟩
    rw [hpn]
    exact hown3.kept (grownBy_setCell' W3 (w.heap.size + 1) _) (.inr hne3.symm)
  · intro D W hD hI hd
    obtain ⟨o, k1, k2, k3⟩ := hI
    have c3 : W.cell? ⟨w.heap.size + 1, 0, none⟩ = some o := k1.cell 0
    have hown := own_more k2 (show w.heap.size ≤ W0.heap.size + 4 by omega)
    clear k1 k2
    gi_wp2
    refine ⟨by simp, .inl ⟨D, _, rfl, run_takeDeferred hd, ?_⟩⟩
    exact ⟨_, results_tmp rfl _ _ _, _, rfl, own_turn hown (grownBy_putObj' W D _) (fun r e => by cases e; exact ⟨_, hd, rfl⟩), k3.trans ⟨rfl, rfl, rfl, by simp [World.putObj], fun k hk => World.putObj_heap_other (by have := k3.size; omega)⟩⟩
  · intro _ _ _ _ _ _ hf
    exact hf.elim
end Go.Proofs.YtplapaojgcloaaaGreatDoor
namespace Go.PM
open Go.RowKit
/-- the moves that give to place p the value of S p, of the first k places -/
def lsH (S : Nat → ByteArray) (p : Nat) : Bool := decide (S p ≠ nm p)
def lsF (S : Nat → ByteArray) (k : Nat) : List Mv := ((List.range k).filter (lsH S)).map fun p => (nm p, S p)
theorem lsF_yes (S : Nat → ByteArray) (k : Nat) (h : lsH S k = true) : lsF S (k + 1) = lsF S k ++ [(nm k, S k)] := by
  simp [lsF, List.range_succ, h]
theorem lsF_no (S : Nat → ByteArray) (k : Nat) (h : lsH S k = false) : lsF S (k + 1) = lsF S k := by
  simp [lsF, List.range_succ, h]
theorem lsF_len (S : Nat → ByteArray) (k : Nat) : (lsF S k).length ≤ k := by
  unfold lsF
  rw [List.length_map]
  have := List.length_filter_le (lsH S) (List.range k)
  simpa using this
theorem lsF_congr {S T : Nat → ByteArray} {k : Nat} (h : ∀ p, p < k → S p = T p) : lsF S k = lsF T k := by
  have e : (List.range k).filter (lsH S) = (List.range k).filter (lsH T) := List.filter_congr fun p hp => by
    have : p < k := by simpa using hp
    rw [lsH, lsH, h p this]
  unfold lsF
  rw [e]
  refine List.map_congr_left fun p hp => ?_
  have : p < k := by have := (List.mem_filter.1 hp).1; simpa using this
  rw [h p this]
theorem lsF_keys (S : Nat → ByteArray) : ((lsF S 9).map (·.1)).Nodup := by
  have e : (lsF S 9).map (·.1) = ((List.range 9).filter (lsH S)).map nm := by simp [lsF]
  rw [e]
  have : ∀ l : List Nat, l.Nodup → (∀ p ∈ l, p < 9) → (l.map nm).Nodup := by
    intro l
    induction l with
    | nil => intro _ _; simp
    | cons a l ih =>
      intro h1 h2
      rw [List.nodup_cons] at h1
      rw [List.map_cons, List.nodup_cons]
      refine ⟨fun hm => ?_, ih h1.2 fun p hp => h2 p (by simp [hp])⟩
      obtain ⟨b, hb, e⟩ := List.mem_map.1 hm
      have := nm_inj (h2 b (by simp [hb])) (h2 a (by simp)) e
      subst this; exact h1.1 hb
  exact this _ ((List.nodup_range (n := 9)).sublist List.filter_sublist) (fun p hp => by
    have := (List.mem_filter.1 hp).1; simpa using this)
theorem lsF_mem {S : Nat → ByteArray} {m : Mv} (h : m ∈ lsF S 9) : ∃ p, p < 9 ∧ S p ≠ nm p ∧ m = (nm p, S p) := by
  obtain ⟨p, hp, rfl⟩ := List.mem_map.1 h
  obtain ⟨h1, h2⟩ := List.mem_filter.1 hp
  exact ⟨p, by simpa using h1, by simpa [lsH] using h2, rfl⟩
/-- a source function whose values are places or digits -/
def SVal (S : Nat → ByteArray) : Prop := ∀ p, p < 9 → isS (S p) = true
theorem lsF_MV {S : Nat → ByteArray} (h : SVal S) : MV (lsF S 9) := by
  refine ⟨fun m hm => ?_, lsF_keys S⟩
  obtain ⟨p, hp, _, rfl⟩ := lsF_mem hm
  unfold mok
  rw [isP_nm hp, h p hp]; rfl
theorem lsF_src (S : Nat → ByteArray) {p : Nat} (hp : p < 9) : srcM (lsF S 9) (nm p) = S p := by
  unfold srcM
  cases hf : (lsF S 9).find? (fun x => decide (x.1 = nm p)) with
  | none =>
    by_cases hh : S p = nm p
    · exact hh.symm
    · refine absurd (List.find?_eq_none.1 hf (nm p, S p) ?_) (by simp)
      exact List.mem_map.2 ⟨p, List.mem_filter.2 ⟨by simpa using hp, by simpa [lsH] using hh⟩, rfl⟩
  | some x =>
    have e1 : x.1 = nm p := by simpa using List.find?_some hf
    obtain ⟨q, hq, _, rfl⟩ := lsF_mem (List.mem_of_find?_eq_some hf)
    have := nm_inj hq hp e1
    subst this; rfl
theorem nm_ne (p : Nat) : nm p ≠ emp := by
  intro h
  have := congrArg ByteArray.size h
  cases this
theorem srcT_ne (f : Nat → ByteArray) (p : Nat) : srcT f p ≠ emp := by
  unfold srcT
  split
  · exact nm_ne p
  · next h => exact h

/-- the source function of one behind the other -/
def cmpF (S T : Nat → ByteArray) (p : Nat) : ByteArray := if isP (T p) then S (pidx (T p)) else T p
def cmpM (xs ys : List Mv) (p : Nat) : ByteArray := cmpF (fun q => srcM xs (nm q)) (fun q => srcM ys (nm q)) p
theorem cmpM_eq (xs ys : List Mv) (p : Nat) : cmpM xs ys p = if isP (srcM ys (nm p)) then srcM xs (srcM ys (nm p)) else srcM ys (nm p) := by
  unfold cmpM cmpF
  by_cases h : isP (srcM ys (nm p)) = true
  · rw [if_pos h, if_pos h]
    show srcM xs (nm (pidx (srcM ys (nm p)))) = _
    rw [(pidx_spec h).2]
  · rw [if_neg h, if_neg h]
theorem cmpF_assoc (A B C : Nat → ByteArray) (p : Nat) : cmpF (cmpF A B) C p = cmpF A (cmpF B C) p := by
  unfold cmpF
  by_cases h : isP (C p) = true
  · rw [if_pos h, if_pos h]
  · rw [if_neg h, if_neg h, if_neg h]
theorem cmpF_id (T : Nat → ByteArray) (p : Nat) : cmpF nm T p = T p := by
  unfold cmpF
  by_cases h : isP (T p) = true
  · rw [if_pos h, (pidx_spec h).2]
  · rw [if_neg h]
theorem cmpF_nm (S : Nat → ByteArray) {p : Nat} (hp : p < 9) : cmpF S nm p = S p := by
  unfold cmpF
  rw [if_pos (isP_nm hp), pidx_nm hp]
theorem cmpF_congr {A B C D : Nat → ByteArray} (h1 : ∀ p, p < 9 → A p = C p) (h2 : ∀ p, p < 9 → B p = D p) {p : Nat} (hp : p < 9) : cmpF A B p = cmpF C D p := by
  unfold cmpF
  rw [h2 p hp]
  by_cases h : isP (D p) = true
  · rw [if_pos h, if_pos h, h1 _ (pidx_spec h).1]
  · rw [if_neg h, if_neg h]
theorem isS_nm {p : Nat} (h : p < 9) : isS (nm p) = true := by unfold isS; rw [isP_nm h]; rfl
theorem SVal_nm : SVal nm := fun _ h => isS_nm h
theorem SVal_cmp {A B : Nat → ByteArray} (ha : SVal A) (hb : SVal B) : SVal (cmpF A B) := by
  intro p hp
  unfold cmpF
  by_cases h : isP (B p) = true
  · rw [if_pos h]; exact ha _ (pidx_spec h).1
  · rw [if_neg h]; exact hb p hp
theorem SVal_M {xs : List Mv} (h : MV xs) : SVal fun q => srcM xs (nm q) := by
  intro p hp
  show isS (srcM xs (nm p)) = true
  unfold srcM
  cases hf : xs.find? (fun m => decide (m.1 = nm p)) with
  | none => exact isS_nm hp
  | some m =>
    have := h.1 m (List.mem_of_find?_eq_some hf)
    unfold mok at this; rw [Bool.and_eq_true] at this
    exact this.2
/-- n times one behind the other -/
def pwF (S : Nat → ByteArray) : Nat → Nat → ByteArray
  | 0 => nm
  | n + 1 => cmpF (pwF S n) S
theorem pwF_left (S : Nat → ByteArray) : ∀ n p, p < 9 → cmpF S (pwF S n) p = pwF S (n + 1) p
  | 0, p, hp => by
    show cmpF S nm p = cmpF nm S p
    rw [cmpF_nm S hp, cmpF_id]
  | n + 1, p, hp => by
    show cmpF S (cmpF (pwF S n) S) p = cmpF (pwF S (n + 1)) S p
    rw [← cmpF_assoc]
    exact cmpF_congr (fun q hq => pwF_left S n q hq) (fun _ _ => rfl) hp
theorem pwF_congr {S T : Nat → ByteArray} (h : ∀ p, p < 9 → S p = T p) : ∀ n p, p < 9 → pwF S n p = pwF T n p
  | 0, _, _ => rfl
  | n + 1, _, hp => cmpF_congr (fun q hq => pwF_congr h n q hq) h hp
theorem pwF_two (S : Nat → ByteArray) : ∀ n p, p < 9 → pwF (cmpF S S) n p = pwF S (2 * n) p
  | 0, _, _ => rfl
  | n + 1, p, hp => by
    show cmpF (pwF (cmpF S S) n) (cmpF S S) p = _
    rw [show 2 * (n + 1) = 2 * n + 1 + 1 by omega]
    show _ = cmpF (cmpF (pwF S (2 * n)) S) S p
    rw [cmpF_assoc]
    exact cmpF_congr (fun q hq => pwF_two S n q hq) (fun _ _ => rfl) hp
theorem SVal_pw {S : Nat → ByteArray} (h : SVal S) : ∀ n, SVal (pwF S n)
  | 0 => SVal_nm
  | n + 1 => SVal_cmp (SVal_pw h n) h
theorem pwF_add (S : Nat → ByteArray) (m : Nat) : ∀ n p, p < 9 → pwF S (m + n) p = cmpF (pwF S m) (pwF S n) p
  | 0, p, hp => (cmpF_nm _ hp).symm
  | n + 1, p, hp => by
    show cmpF (pwF S (m + n)) S p = cmpF (pwF S m) (cmpF (pwF S n) S) p
    rw [← cmpF_assoc]
    exact cmpF_congr (fun q hq => pwF_add S m n q hq) (fun _ _ => rfl) hp

/-- tables: the ones behind the others, and without idle moves -/
def behF (f : Nat → ByteArray) (s : ByteArray) : ByteArray := if isP s then srcT f (pidx s) else s
def thenF (f g : Nat → ByteArray) (p : Nat) : ByteArray := behF f (srcT g p)
theorem thenF_cmp (f g : Nat → ByteArray) (p : Nat) : thenF f g p = cmpF (srcT f) (srcT g) p := rfl
theorem thenF_ne (f g : Nat → ByteArray) (p : Nat) : thenF f g p ≠ emp := by
  unfold thenF behF
  split
  · exact srcT_ne _ _
  · exact srcT_ne _ _
theorem srcT_then (f g : Nat → ByteArray) (p : Nat) : srcT (thenF f g) p = cmpF (srcT f) (srcT g) p := by
  unfold srcT
  rw [if_neg (thenF_ne f g p)]
  rfl
def noIdle (t : Nat → ByteArray) (p : Nat) : ByteArray := if t p = nm p then emp else t p
theorem mvT_idle (t : Nat → ByteArray) : mvT (noIdle t) (List.range 9) = lsF (srcT t) 9 := by
  unfold mvT lsF
  have e : (List.range 9).filter (hasT (noIdle t)) = (List.range 9).filter (lsH (srcT t)) := List.filter_congr fun p _ => by
    unfold hasT lsH noIdle srcT
    by_cases h1 : t p = emp
    · have : ¬ t p = nm p := fun e => nm_ne p (e ▸ h1)
      simp [h1]
    · by_cases h2 : t p = nm p
      · simp [h2]
      · simp [h1, h2]
  rw [e]
  refine List.map_congr_left fun p hp => ?_
  have h := (List.mem_filter.1 hp).2
  unfold lsH at h
  have h : srcT t p ≠ nm p := by simpa using h
  unfold noIdle srcT at *
  by_cases h1 : t p = emp
  · rw [if_pos h1] at h; exact absurd rfl h
  · rw [if_neg h1] at h ⊢
    rw [if_neg h]
theorem srcT_M {xs : List Mv} (h : MV xs) {p : Nat} (hp : p < 9) : srcT (tabOf xs) p = srcM xs (nm p) := srcM_nm h hp
theorem srcT_zero (p : Nat) : srcT (fun _ => emp) p = nm p := rfl

/-- what the functions answer -/
def compM (xs ys : List Mv) : List Mv := if mvalid xs && mvalid ys then lsF (cmpM xs ys) 9 else []
def powM (xs : List Mv) (n : Int) : List Mv := if mvalid xs && (decide (0 ≤ n) && decide (n ≤ 60)) then lsF (pwF (fun q => srcM xs (nm q)) n.toNat) 9 else []
theorem compM_tab {xs ys : List Mv} (h1 : MV xs) (h2 : MV ys) : mvT (noIdle (thenF (tabOf xs) (tabOf ys))) (List.range 9) = compM xs ys := by
  have m1 : mvalid xs = true := by simpa [mvalid] using h1
  have m2 : mvalid ys = true := by simpa [mvalid] using h2
  rw [mvT_idle, compM, m1, m2]
  refine lsF_congr fun p hp => ?_
  rw [srcT_then]
  exact cmpF_congr (fun q hq => srcT_M h1 hq) (fun q hq => srcT_M h2 hq) hp
/-- spec's way: the moves behind moves that are as moves once more -/
theorem cmpM_pw (xs : List Mv) (n : Nat) : lsF (cmpM (lsF (pwF (fun q => srcM xs (nm q)) n) 9) xs) 9 = lsF (pwF (fun q => srcM xs (nm q)) (n + 1)) 9 :=
  lsF_congr fun _ hp => cmpF_congr (fun _ hq => lsF_src _ hq) (fun _ _ => rfl) hp
theorem lsF_nm : lsF nm 9 = [] := by
  unfold lsF
  rw [List.filter_eq_nil_iff.2]
  · rfl
  · intro p _; simp [lsH]
/-- the loop's own invariant: what is done, and what is done n times more -/
def PwInv (f : Nat → ByteArray) (N : Nat) (d x : Nat → ByteArray) (n : Nat) : Prop := ∀ p, p < 9 → cmpF (srcT d) (pwF (srcT x) n) p = pwF (srcT f) N p
theorem PwInv_start (f : Nat → ByteArray) (N : Nat) : PwInv f N (fun _ => emp) f N := fun p _ => cmpF_id _ p
theorem PwInv_odd {f d x : Nat → ByteArray} {N n : Nat} (h : PwInv f N d x n) (h1 : n % 2 = 1) : PwInv f N (thenF d x) (thenF x x) (n / 2) := by
  intro p hp
  rw [← h p hp]
  have e : n = 2 * (n / 2) + 1 := by omega
  have e1 : ∀ q, q < 9 → pwF (srcT (thenF x x)) (n / 2) q = pwF (srcT x) (2 * (n / 2)) q := fun q hq => by
    rw [pwF_congr (fun r _ => srcT_then x x r) _ q hq]
    exact pwF_two _ _ q hq
  rw [cmpF_congr (fun q _ => srcT_then d x q) e1 hp, cmpF_assoc]
  refine cmpF_congr (fun _ _ => rfl) (fun q hq => ?_) hp
  rw [pwF_left _ _ q hq, ← e]
theorem PwInv_even {f d x : Nat → ByteArray} {N n : Nat} (h : PwInv f N d x n) (h1 : n % 2 = 0) : PwInv f N d (thenF x x) (n / 2) := by
  intro p hp
  rw [← h p hp]
  have e : n = 2 * (n / 2) := by omega
  refine cmpF_congr (fun _ _ => rfl) (fun q hq => ?_) hp
  rw [pwF_congr (fun r _ => srcT_then x x r) _ q hq, pwF_two _ _ q hq, ← e]
theorem PwInv_end {f d x : Nat → ByteArray} {N : Nat} (h : PwInv f N d x 0) {p : Nat} (hp : p < 9) : srcT d p = pwF (srcT f) N p := by
  rw [← h p hp]; exact (cmpF_nm _ hp).symm
end Go.PM
namespace Go.PM
open Go.RowKit
theorem beqB (a b : ByteArray) : (a == b) = (a.data == b.data) := by cases a; cases b; rfl
instance lawB : LawfulBEq ByteArray where
  eq_of_beq {a b} h := by
    rw [beqB] at h
    exact ByteArray.ext (eq_of_beq h)
  rfl {a} := by rw [beqB]; exact beq_self_eq_true _
/-- how many of the moves read a place -/
def rdN (xs : List Mv) (a : ByteArray) : Nat := (xs.map (·.2)).count a
/-- a move whose place none reads -/
def freeB (xs : List Mv) (m : Mv) : Bool := decide (rdN xs m.1 = 0)
/-- the first move that can be done ahead of all others -/
def aheadI (xs : List Mv) : Option Nat := xs.findIdx? (freeB xs)
def aheadZ (xs : List Mv) : Int := match aheadI xs with
  | some i => (i : Int)
  | none => -1
def spT : ByteArray := ⟨#[116]⟩
/-- moves that read a place read another one instead -/
def instM (a b : ByteArray) (xs : List Mv) : List Mv := xs.map fun m => if m.2 = a then (m.1, b) else m
/-- moves behind one that is done -/
def redM (d : Mv) (xs : List Mv) : List Mv := if isD d.2 = true then xs else instM d.2 d.1 xs
theorem isP_cases {s : ByteArray} (h : isP s = true) : isD s = false ∧ s ≠ spT := by
  obtain ⟨h1, h2⟩ := pidx_spec h
  rw [← h2]
  generalize pidx s = p at h1
  match p, h1 with
  | 0, _ | 1, _ | 2, _ | 3, _ | 4, _ | 5, _ | 6, _ | 7, _ | 8, _ => decide +kernel
theorem isD_cases {s : ByteArray} (h : isD s = true) : isP s = false ∧ s ≠ spT := by
  refine ⟨?_, fun e => ?_⟩
  · rcases Bool.eq_false_or_eq_true (isP s) with h1 | h1
    · rw [(isP_cases h1).1] at h; cases h
    · exact h1
  · subst e; revert h; decide +kernel
theorem spT_cases : isP spT = false ∧ isD spT = false := by decide +kernel
theorem instM_len (a b : ByteArray) (xs : List Mv) : (instM a b xs).length = xs.length := by simp [instM]
theorem redM_len (d : Mv) (xs : List Mv) : (redM d xs).length = xs.length := by
  unfold redM; split
  · rfl
  · exact instM_len _ _ _
theorem instM_keys (a b : ByteArray) (xs : List Mv) : (instM a b xs).map (·.1) = xs.map (·.1) := by
  unfold instM
  rw [List.map_map]
  refine List.map_congr_left fun m _ => ?_
  show (if m.2 = a then (m.1, b) else m).1 = m.1
  split <;> rfl
theorem redM_keys (d : Mv) (xs : List Mv) : (redM d xs).map (·.1) = xs.map (·.1) := by
  unfold redM; split
  · rfl
  · exact instM_keys _ _ _
theorem instM_mem {a b : ByteArray} {xs : List Mv} {m : Mv} (h : m ∈ instM a b xs) : ∃ x ∈ xs, m.1 = x.1 ∧ ((x.2 = a ∧ m.2 = b) ∨ (x.2 ≠ a ∧ m = x)) := by
  unfold instM at h
  obtain ⟨x, hx, e⟩ := List.mem_map.1 h
  by_cases hxa : x.2 = a
  · rw [if_pos hxa] at e; subst e
    exact ⟨x, hx, rfl, .inl ⟨hxa, rfl⟩⟩
  · rw [if_neg hxa] at e; subst e
    exact ⟨x, hx, rfl, .inr ⟨hxa, rfl⟩⟩
theorem instM_at (a b : ByteArray) (xs : List Mv) (k : Nat) (hk : k < (instM a b xs).length) : (instM a b xs)[k] = if (xs[k]'(by rwa [instM_len] at hk)).2 = a then ((xs[k]'(by rwa [instM_len] at hk)).1, b) else xs[k]'(by rwa [instM_len] at hk) := by
  simp only [instM, List.getElem_map]
theorem instM_none {a b : ByteArray} {xs : List Mv} (h : rdN xs a = 0) : instM a b xs = xs := by
  unfold instM
  have : ∀ m ∈ xs, (if m.2 = a then (m.1, b) else m) = m := fun m hm => by
    rw [if_neg]
    intro e
    unfold rdN at h
    rw [List.count_eq_zero] at h
    exact h (List.mem_map.2 ⟨m, hm, e⟩)
  rw [List.map_congr_left this, List.map_id']
theorem instM_rdN (a b : ByteArray) (hab : b ≠ a) : ∀ xs : List Mv, rdN (instM a b xs) a = 0 ∧ rdN (instM a b xs) b = rdN xs b + rdN xs a ∧ ∀ c, c ≠ a → c ≠ b → rdN (instM a b xs) c = rdN xs c
  | [] => ⟨rfl, rfl, fun _ _ _ => rfl⟩
  | x :: xs => by
    obtain ⟨h1, h2, h3⟩ := instM_rdN a b hab xs
    have e : instM a b (x :: xs) = (if x.2 = a then (x.1, b) else x) :: instM a b xs := rfl
    unfold rdN at *
    rw [e, List.map_cons, List.map_cons]
    by_cases hx : x.2 = a
    · rw [if_pos hx]
      refine ⟨?_, ?_, fun c hc hc2 => ?_⟩
      · rw [List.count_cons_of_ne (by exact hab), h1]
      · rw [List.count_cons_self, h2, hx, List.count_cons_of_ne (by exact fun e => hab e.symm), List.count_cons_self]; omega
      · rw [List.count_cons_of_ne (by exact fun e => hc2 e.symm), h3 c hc hc2, hx, List.count_cons_of_ne (by exact fun e => hc e.symm)]
    · rw [if_neg hx]
      refine ⟨?_, ?_, fun c hc hc2 => ?_⟩
      · rw [List.count_cons_of_ne hx, h1]
      · rw [List.count_cons, h2, List.count_cons_of_ne hx, List.count_cons]; omega
      · rw [List.count_cons, h3 c hc hc2, List.count_cons]
theorem rdN_zero {xs : List Mv} {a : ByteArray} : rdN xs a = 0 ↔ ∀ m ∈ xs, m.2 ≠ a := by
  unfold rdN
  rw [List.count_eq_zero]
  constructor
  · intro h m hm e; exact h (List.mem_map.2 ⟨m, hm, e⟩)
  · intro h hm
    obtain ⟨m, hm, e⟩ := List.mem_map.1 hm
    exact h m hm e
theorem rdN_erase (xs : List Mv) (i : Nat) (hi : i < xs.length) (a : ByteArray) : rdN xs a = rdN (xs.eraseIdx i) a + if xs[i].2 = a then 1 else 0 := by
  induction xs generalizing i with
  | nil => simp at hi
  | cons x xs ih =>
    cases i with
    | zero =>
      unfold rdN
      rw [List.eraseIdx_zero, List.tail_cons, List.map_cons, List.count_cons]
      simp
    | succ i =>
      have := ih i (by simpa using hi)
      unfold rdN at this ⊢
      rw [List.eraseIdx_cons_succ, List.map_cons, List.map_cons, List.count_cons, List.count_cons, this]
      simp only [List.getElem_cons_succ]; omega
theorem erase_mem {α : Type _} {xs : List α} {i : Nat} {m : α} (h : m ∈ xs.eraseIdx i) : m ∈ xs := (List.eraseIdx_sublist xs i).subset h
theorem erase_key {xs : List Mv} (hn : (xs.map (·.1)).Nodup) {i : Nat} (hi : i < xs.length) : ∀ m ∈ xs.eraseIdx i, m.1 ≠ xs[i].1 := by
  induction xs generalizing i with
  | nil => simp at hi
  | cons x xs ih =>
    rw [List.map_cons, List.nodup_cons] at hn
    intro m hm e
    cases i with
    | zero =>
      rw [List.eraseIdx_zero, List.tail_cons] at hm
      exact hn.1 (List.mem_map.2 ⟨m, hm, by simpa using e⟩)
    | succ i =>
      rw [List.eraseIdx_cons_succ, List.mem_cons] at hm
      simp only [List.getElem_cons_succ] at e
      rcases hm with rfl | hm
      · exact hn.1 (List.mem_map.2 ⟨xs[i]'(by simpa using hi), List.getElem_mem _, e.symm⟩)
      · exact ih hn.2 (by simpa using hi) m hm e
theorem erase_or {α : Type _} {xs : List α} {i : Nat} (hi : i < xs.length) {m : α} (h : m ∈ xs) : m = xs[i] ∨ m ∈ xs.eraseIdx i := by
  induction xs generalizing i with
  | nil => simp at hi
  | cons x xs ih =>
    cases i with
    | zero =>
      rw [List.mem_cons] at h
      rcases h with rfl | h
      · exact .inl rfl
      · exact .inr (by simpa using h)
    | succ i =>
      rw [List.mem_cons] at h
      rw [List.eraseIdx_cons_succ, List.mem_cons]
      rcases h with rfl | h
      · exact .inr (.inl rfl)
      · rcases ih (by simpa using hi) h with e | e
        · exact .inl (by simpa using e)
        · exact .inr (.inr e)
/-- moves that wait -/
structure Wt (ws : List Mv) : Prop where
  keys : (ws.map (·.1)).Nodup
  to_ : ∀ m ∈ ws, isP m.1 = true
  from_ : ∀ m ∈ ws, isP m.2 = true ∨ isD m.2 = true ∨ m.2 = spT
  ne : ∀ m ∈ ws, m.1 ≠ m.2
  one : rdN ws spT ≤ 1
theorem aheadI_some {ws : List Mv} {i : Nat} (h : aheadI ws = some i) : ∃ hi : i < ws.length, rdN ws ws[i].1 = 0 := by
  unfold aheadI at h
  obtain ⟨h1, h2, _⟩ := List.findIdx?_eq_some_iff_getElem.1 h
  refine ⟨h1, ?_⟩
  unfold freeB at h2
  simpa using h2
theorem aheadI_none {ws : List Mv} (h : aheadI ws = none) : ∀ m ∈ ws, rdN ws m.1 ≠ 0 := by
  intro m hm e
  unfold aheadI at h
  have := List.findIdx?_eq_none_iff.1 h m hm
  unfold freeB at this
  simp [e] at this
theorem Wt.erase {ws : List Mv} (h : Wt ws) (i : Nat) : Wt (ws.eraseIdx i) := by
  refine ⟨h.keys.sublist ((List.eraseIdx_sublist ws i).map _), fun m hm => h.to_ m (erase_mem hm), fun m hm => h.from_ m (erase_mem hm), fun m hm => h.ne m (erase_mem hm), ?_⟩
  refine Nat.le_trans ?_ h.one
  unfold rdN
  exact ((List.eraseIdx_sublist ws i).map _).count_le _
theorem Wt.inst {ws : List Mv} (h : Wt ws) {a b : ByteArray} (_hab : b ≠ a) (hb : isP b = true ∨ b = spT) (hk : ∀ m ∈ ws, m.1 ≠ b) (h1 : rdN (instM a b ws) spT ≤ 1) : Wt (instM a b ws) := by
  refine ⟨by rw [instM_keys]; exact h.keys, fun m hm => ?_, fun m hm => ?_, fun m hm => ?_, h1⟩
  · obtain ⟨x, hx, e, _⟩ := instM_mem hm
    rw [e]; exact h.to_ x hx
  · obtain ⟨x, hx, e, (⟨e1, e2⟩ | ⟨e1, e2⟩)⟩ := instM_mem hm
    · rw [e2]
      rcases hb with hb | hb
      · exact .inl hb
      · exact .inr (.inr hb)
    · rw [e2]; exact h.from_ x hx
  · obtain ⟨x, hx, e, (⟨e1, e2⟩ | ⟨e1, e2⟩)⟩ := instM_mem hm
    · rw [e, e2]; exact hk x hx
    · rw [e2]; exact h.ne x hx
theorem perm_of_sub {α : Type _} [BEq α] [LawfulBEq α] : ∀ (l m : List α), l.Nodup → (∀ a ∈ l, a ∈ m) → m.length ≤ l.length → l.Perm m
  | [], m, _, _, hl => by
    have : m = [] := List.length_eq_zero_iff.1 (by simpa using hl)
    rw [this]
  | a :: l, m, hn, hs, hl => by
    rw [List.nodup_cons] at hn
    have ha : a ∈ m := hs a (by simp)
    have h1 := perm_of_sub l (m.erase a) hn.2 (fun b hb => (List.mem_erase_of_ne (fun (e : b = a) => hn.1 (by rw [← e]; exact hb))).2 (hs b (by simp [hb]))) (by
      rw [List.length_erase_of_mem ha]; simp only [List.length_cons] at hl; omega)
    exact (List.Perm.cons a h1).trans (List.perm_cons_erase ha).symm
/-- where each place waits for a reader, all moves are of closed rings -/
theorem Wt.full {ws : List Mv} (h : Wt ws) (hn : aheadI ws = none) : (∀ m ∈ ws, rdN ws m.1 = 1) ∧ (∀ m ∈ ws, ∃ x ∈ ws, x.1 = m.2) ∧ rdN ws spT = 0 := by
  have hp : (ws.map (·.1)).Perm (ws.map (·.2)) := by
    refine perm_of_sub _ _ h.keys (fun a ha => ?_) (by simp)
    obtain ⟨m, hm, rfl⟩ := List.mem_map.1 ha
    have := aheadI_none hn m hm
    unfold rdN at this
    exact List.count_pos_iff.1 (Nat.pos_of_ne_zero this)
  have hx : ∀ m ∈ ws, ∃ x ∈ ws, x.1 = m.2 := fun m hm => by
    have := hp.mem_iff.2 (List.mem_map.2 ⟨m, hm, rfl⟩ : m.2 ∈ ws.map (·.2))
    obtain ⟨x, hx, e⟩ := List.mem_map.1 this
    exact ⟨x, hx, e⟩
  refine ⟨fun m hm => ?_, hx, ?_⟩
  · unfold rdN
    rw [← hp.count_eq]
    have h1 := (List.nodup_iff_count.1 h.keys) m.1
    have h2 : 0 < (ws.map (·.1)).count m.1 := List.count_pos_iff.2 (List.mem_map.2 ⟨m, hm, rfl⟩)
    omega
  · rw [rdN_zero]
    intro m hm e
    obtain ⟨x, hx, e2⟩ := hx m hm
    exact (isP_cases (h.to_ x hx)).2 (e2.trans e)
theorem Wt.some_ {ws : List Mv} (h : Wt ws) {i : Nat} (hi : i < ws.length) (_hf : rdN ws ws[i].1 = 0) : Wt (redM ws[i] (ws.eraseIdx i)) := by
  unfold redM
  split
  · exact h.erase i
  · next hd =>
    have hm := List.getElem_mem hi
    have hne := h.ne _ hm
    refine (h.erase i).inst hne (.inl (h.to_ _ hm)) (erase_key h.keys hi) ?_
    have ht : ws[i].1 ≠ spT := (isP_cases (h.to_ _ hm)).2
    obtain ⟨r1, r2, r3⟩ := instM_rdN ws[i].2 ws[i].1 hne (ws.eraseIdx i)
    by_cases e : ws[i].2 = spT
    · rw [e] at r1; rw [e, r1]; omega
    · rw [r3 _ (fun e' => e e'.symm) (fun e' => ht e'.symm)]
      exact (h.erase i).one
theorem Wt.none_ {ws : List Mv} (h : Wt ws) (h0 : 0 < ws.length) (hn : aheadI ws = none) : Wt (redM (spT, ws[0].1) ws) ∧ rdN (redM (spT, ws[0].1) ws) spT = 1 := by
  obtain ⟨f1, f2, f3⟩ := h.full hn
  have hm := List.getElem_mem h0
  have hp := isP_cases (h.to_ _ hm)
  have e : redM (spT, ws[0].1) ws = instM ws[0].1 spT ws := by
    unfold redM
    rw [if_neg]
    show ¬ isD ws[0].1 = true
    rw [hp.1]; decide
  obtain ⟨r1, r2, r3⟩ := instM_rdN ws[0].1 spT (fun e => hp.2 e.symm) ws
  have h1 : rdN (instM ws[0].1 spT ws) spT = 1 := by rw [r2, f3, f1 _ hm]
  rw [e]
  exact ⟨h.inst (fun e => hp.2 e.symm) (.inr rfl) (fun m hm => (isP_cases (h.to_ m hm)).2) (by omega), h1⟩
/-- the steps of an order -/
def ordF : Nat → List Mv → List Mv
  | 0, _ => []
  | _ + 1, [] => []
  | n + 1, x :: xs => match aheadI (x :: xs) with
    | some i => match (x :: xs)[i]? with
      | some m => m :: ordF n (redM m ((x :: xs).eraseIdx i))
      | none => []
    | none => (spT, x.1) :: ordF n (redM (spT, x.1) (x :: xs))
theorem ordF_nil (n : Nat) : ordF n [] = [] := by cases n <;> rfl
theorem ordF_some {n : Nat} {ws : List Mv} {i : Nat} (hi : i < ws.length) (h : aheadI ws = some i) : ordF (n + 1) ws = ws[i] :: ordF n (redM ws[i] (ws.eraseIdx i)) := by
  cases ws with
  | nil => simp at hi
  | cons x xs =>
    rw [ordF, h]
    simp only
    rw [List.getElem?_eq_getElem hi]
theorem ordF_none {n : Nat} {ws : List Mv} (h0 : 0 < ws.length) (h : aheadI ws = none) : ordF (n + 1) ws = (spT, ws[0].1) :: ordF n (redM (spT, ws[0].1) ws) := by
  cases ws with
  | nil => simp at h0
  | cons x xs =>
    rw [ordF, h]
    rfl
/-- what is left of an order takes fewer steps than this -/
def muW (ws : List Mv) : Nat := 2 * ws.length + if rdN ws spT = 0 then 1 else 0
theorem muW_some {ws : List Mv} {i : Nat} (hi : i < ws.length) (d : Mv) : muW (redM d (ws.eraseIdx i)) + 1 ≤ muW ws := by
  unfold muW
  rw [redM_len, List.length_eraseIdx_of_lt hi]
  split <;> split <;> omega
theorem muW_none {ws : List Mv} (h : Wt ws) (h0 : 0 < ws.length) (hn : aheadI ws = none) : muW (redM (spT, ws[0].1) ws) + 1 ≤ muW ws := by
  have h1 := (h.none_ h0 hn).2
  have h2 := (h.full hn).2.2
  unfold muW
  rw [redM_len, h1, h2]
  simp
/-- what is taken ahead, as long as there is such a move -/
def takF : Nat → List Mv → List Mv
  | 0, _ => []
  | n + 1, xs => match aheadI xs with
    | some i => match xs[i]? with
      | some m => m :: takF n (xs.eraseIdx i)
      | none => []
    | none => []
theorem takF_some {n : Nat} {ws : List Mv} {i : Nat} (hi : i < ws.length) (h : aheadI ws = some i) : takF (n + 1) ws = ws[i] :: takF n (ws.eraseIdx i) := by
  rw [takF, h]
  simp only
  rw [List.getElem?_eq_getElem hi]
theorem takF_none {n : Nat} {ws : List Mv} (h : aheadI ws = none) : takF n ws = [] := by
  cases n with
  | zero => rfl
  | succ n => rw [takF, h]
theorem takF_len : ∀ n ws, (takF n ws).length ≤ ws.length
  | 0, _ => Nat.zero_le _
  | n + 1, ws => by
    rw [takF]
    cases h : aheadI ws with
    | none => exact Nat.zero_le _
    | some i =>
      obtain ⟨hi, _⟩ := aheadI_some h
      simp only
      rw [List.getElem?_eq_getElem hi]
      have := takF_len n (ws.eraseIdx i)
      rw [List.length_eraseIdx_of_lt hi] at this
      simp only [List.length_cons]; omega
theorem ordF_len : ∀ n ws, (ordF n ws).length ≤ n
  | 0, _ => Nat.le_refl _
  | n + 1, [] => Nat.zero_le _
  | n + 1, x :: xs => by
    rw [ordF]
    split
    · split
      · have := ordF_len n; simp only [List.length_cons]; exact Nat.succ_le_succ (this _)
      · exact Nat.zero_le _
    · simp only [List.length_cons]; exact Nat.succ_le_succ (ordF_len n _)
theorem busyF_Wt {xs : List Mv} (h : MV xs) : Wt (busyF xs 9) := by
  have hl : busyF xs 9 = lsF (fun p => srcM xs (nm p)) 9 := rfl
  have hMV : MV (busyF xs 9) := by rw [hl]; exact lsF_MV (SVal_M h)
  refine ⟨hMV.2, fun m hm => ?_, fun m hm => ?_, fun m hm => ?_, ?_⟩
  · have := hMV.1 m hm
    unfold mok at this; rw [Bool.and_eq_true] at this; exact this.1
  · have := hMV.1 m hm
    unfold mok at this; rw [Bool.and_eq_true] at this
    have h2 := this.2
    unfold isS at h2; rw [Bool.or_eq_true] at h2
    exact h2.elim .inl (fun h => .inr (.inl h))
  · rw [hl] at hm
    obtain ⟨p, _, hne, e⟩ := lsF_mem hm
    rw [e]; exact fun e => hne e.symm
  · have : rdN (busyF xs 9) spT = 0 := by
      rw [rdN_zero]
      intro m hm e
      have := hMV.1 m hm
      unfold mok at this; rw [Bool.and_eq_true] at this
      have h2 := this.2
      rw [e] at h2
      revert h2; decide +kernel
    omega
/-- steps that do moves; moves in an order in which they can be done -/
def ordM (xs : List Mv) : List Mv := if mvalid xs then ordF 19 (busyF xs 9) else []
def takM (xs : List Mv) : List Mv := takF 9 (busyF xs 9)
def wspB (xs : List Mv) : Bool := mvalid xs && decide ((takM xs).length = (busyF xs 9).length)
def wspM (xs : List Mv) : List Mv := if wspB xs then takM xs else []
end Go.PM
namespace Go.PM
open Go.RowKit
variable {F : Fence} {n : Nat} {P : Program}
/-- one round: blocks from B on lie as they lay, but for the row r, which may go on in a new block -/
structure RowStep (B : Nat) (r r' : Option Nat) (A A' : World) : Prop where
  size : A.heap.size ≤ A'.heap.size
  same : ∀ k, B ≤ k → k < A.heap.size → some k ≠ r → A'.heap[k]? = A.heap[k]?
  row : r' = r ∨ ∀ g, r' = some g → A.heap.size ≤ g
/-- The function gf, called with mk of a yield, hands the elements of xs to it one behind the other, where each round goes on. The loop's facts know the row that the loop fills; the function may read what the caller keeps (Pr), and keeps blocks of its own. -/
def IterR {α : Type} (Pr : World → Prop) (F : Fence) (n : Nat) (P : Program) (gf : Nat) (mk : Value → Array Value) (encs : α → Array Value) (xs : List α) : Prop :=
  ∀ (l : Nat) (J : Option Nat → List α → World → Prop) (r0 : Option Nat) (W : World),
    (∀ r, OwnFrom W.heap.size (J r)) → (∀ r pre A, J r pre A → Pr A ∧ ∀ g, r = some g → g < A.heap.size) →
    (∀ r pre x A, J r pre A → W.heap.size ≤ A.heap.size → pre ++ [x] <+: xs → YieldAt F (n - 1) P l (encs x) A fun e A' =>
      e = .returned (.bool true) ∧ ∃ r', J r' (pre ++ [x]) A' ∧ RowStep W.heap.size r r' A A') →
    J r0 [] W →
    CallsIn F n P gf (mk (.func (.yield l) #[] #[])) W fun e W' => (∃ v, e = .returned v) ∧ ∃ r, J r xs W'
def postR {α : Type} (B : Nat) (I : Option Nat → List α → World → Prop) (xs : List α) (r : Option Nat) (W : World) : Exit → Act → World → Prop
  | .normal, _, W' => ∃ r', I r' xs W' ∧ RowStep B r r' W W'
  | _, _, _ => False
theorem range_lawR {α : Type} {Pr : World → Prop} {g : Operand} {ps : Array Tmp} {assign body : Code} {Q : Exit → Act → World → Prop} {a : Act} {w : World} (hro : F.round = none) (h1 : 1 ≤ n)
    {gf : Nat} {lf lb : Array Value} (hg : a.eval g = .func (.func gf) lf lb) (hFg : F.fn gf) (eg : ∀ args w, (callFunc gf args).run P w = .ok (.enter gf args) w)
    {encs : α → Array Value} {xs : List α} (hit : IterR Pr F (n - 1) P gf (fun y => lf ++ #[y] ++ lb) encs xs) (hps : ∀ x, (encs x).size = ps.size)
    (I : Option Nat → List α → World → Prop) (r0 : Option Nat) (hPr : ∀ r pre A, I r pre A → Pr A ∧ ∀ g, r = some g → ∃ o : Obj, A.heap[g]? = some o ∧ o.isCells = true)
    (hI : ∀ r, OwnFrom w.heap.size (I r)) (h0 : I r0 [] w) (Ax : α → Act → World → Prop) (hAx : ∀ x a', OwnFrom w.heap.size (fun (_ : Unit) W => Ax x a' W))
    (hassign : ∀ (l : Nat) (r : Option Nat) (pre : List α) (x : α) (W : World) (K : Act → World → Prop), I r pre W → pre ++ [x] <+: xs → w.heap.size + 2 ≤ W.heap.size → (∀ a' W', Below W.heap.size W W' → I r pre W' → Ax x a' W' → K a' W') →
      assign.wpIn (F.inRound l) (n - 1 - 1) P (Exit.then K (fun _ _ _ => False)) { tmps := (ps.zip (encs x)).foldl (fun t (p, v) => t.setIfInBounds p v) a.tmps, defers := [] } W)
    (hbody : ∀ (l : Nat) (r : Option Nat) (pre : List α) (x : α) (a' : Act) (W : World), I r pre W → Ax x a' W → pre ++ [x] <+: xs → w.heap.size + 2 ≤ W.heap.size → body.wpIn (F.inRound l) (n - 1 - 1) P (postR w.heap.size I (pre ++ [x]) r W) a' W)
    (hdone : ∀ (D : Nat) (r : Option Nat) (W : World), w.heap.size ≤ D → I r xs W → W.heap[D]? = some (.deferred (some [])) → Q .normal { a with defers := { target := .collected D, args := #[] } :: a.defers } W) :
    (Code.rangeFunc g ps assign body).wpIn F n P Q a w := by
  refine wpIn_rangeFunc fun fn hfn => ?_
  rw [hro]
  have key : ∃ rc : LoopState → Option Code → Loop, rc = fun s j => { state := s, pending := j, fn, tmps := a.tmps, params := ps, assign, body, defers := w.heap.size } := ⟨_, rfl⟩
  obtain ⟨rc, hrc⟩ := key
  let V := (w.alloc (.deferred (some []))).alloc (.loop (rc .ready none))
  let Bk : LoopState → Option Code → World → Prop := fun s j A => A.heap[w.heap.size + 1]? = some (.loop (rc s j)) ∧ A.heap[w.heap.size]? = some (.deferred (some []))
  have bkput : ∀ {s j s' j' A}, Bk s j A → Bk s' j' (A.putObj (w.heap.size + 1) (.loop (rc s' j'))) := fun h =>
    ⟨World.putObj_heap_same (Array.getElem?_eq_some_iff.1 h.1).1, (World.putObj_heap_other (by omega)).trans h.2⟩
  have hVs : V.heap.size = w.heap.size + 2 := by simp [V, World.size_alloc]
  have bknew : ∀ {s j A A' row}, Bk s j A → A.grownBy A' row → (∀ r, row = some r → V.heap.size ≤ r ∧ ∃ o : Obj, A.heap[r]? = some o ∧ o.isCells = false) → Bk s j A' := fun h hg' hr =>
    ⟨(hg'.block _ (Array.getElem?_eq_some_iff.1 h.1).1 (fun e => by have := (hr _ e.symm).1; omega)).trans h.1, (hg'.block _ (Array.getElem?_eq_some_iff.1 h.2).1 (fun e => by have := (hr _ e.symm).1; omega)).trans h.2⟩
  have hV : Bk .ready none V := by
    refine ⟨?_, ?_⟩
    · have := World.alloc_heap_new (w.alloc (.deferred (some []))) (.loop (rc .ready none)); rwa [World.size_alloc] at this
    · exact (Below.heap_alloc _ _ _ (by simp)).trans (World.alloc_heap_new w _)
  have hIV : I r0 [] V := (hI r0).alloc _ ((hI r0).alloc _ h0)
  refine ⟨w.heap.size + 1, [{ target := .collected w.heap.size, args := #[] }], V, { target := .fn (.func gf) lb, args := lf ++ #[.func (.yield (w.heap.size + 1)) #[] #[]] }, V, gf,
    lf ++ #[.func (.yield (w.heap.size + 1)) #[] #[]] ++ lb, V, ?_, ?_, ?_, ?_, fun _ => h1, ?_⟩
  · have := run_enterLoop_outer (P := P) (w := w) fn a.tmps ps assign body
    rw [this]; simp only [V, hrc]
  · simp only [resolve, hg]
    simp [go_sem]
  · intro f' hf'
    simp [Target.leads] at hf'
    subst hf'; exact hFg
  · simp [invoke, go_sem, eg]
  refine (hit (w.heap.size + 1) (fun r pre A => I r pre A ∧ Bk .ready none A) r0 V
    (fun r pre A A' row h hg' hr => ⟨hI r pre A A' row h.1 hg' (fun q e => ⟨by have := (hr q e).1; omega, (hr q e).2⟩), bknew h.2 hg' hr⟩)
    (fun r pre A h => ⟨(hPr r pre A h.1).1, fun g e => by obtain ⟨o, ho, _⟩ := (hPr r pre A h.1).2 g e; exact (Array.getElem?_eq_some_iff.1 ho).1⟩) ?_ ⟨hIV, hV⟩).mono ?_
  · rintro r pre x A ⟨hi, hb⟩ hsz hpx
    have hy := run_yield (P := P) (args := encs x) hb.1 (by rw [hrc]; exact hps x)
    rw [hrc] at hy
    refine ⟨fn, _, assign, body, hy, roundIn_of_wpIn hfn (hassign _ r pre x A _ hi hpx (by omega) ?_)⟩
    intro a' Wa hbl hia hax
    have hlt := (Array.getElem?_eq_some_iff.1 hb.1).1
    replace hb : Bk .ready none Wa := ⟨(hbl.block _ hlt).trans hb.1, (hbl.block _ (by omega)).trans hb.2⟩
    clear hy hi
    refine ⟨_, run_beginRound hb.1 (by rw [hrc]), ?_⟩
    have hszA : A.heap.size ≤ Wa.heap.size := hbl.size
    have hb2 : Bk .busy none (Wa.putObj (w.heap.size + 1) (.loop (rc .busy none))) := bkput hb
    have e2 : ({ rc .ready none with state := .busy } : Loop) = rc .busy none := by rw [hrc]
    rw [e2]
    have hib := (hI r).putObj (.loop (rc .busy none)) hia (by omega) hb.1 rfl
    have hrr := (hPr r pre _ hib).2
    refine wpIn_mono (hbody _ r pre x a' _ hib ((hAx x a').putObj (s := ()) _ hax (by omega) hb.1 rfl) hpx (by simp [World.putObj]; omega)) ?_
    rintro e a3 C hp
    cases e with
    | normal =>
      obtain ⟨r', hi3, hst⟩ := hp
      have hne : ∀ k, w.heap.size ≤ k → k < w.heap.size + 2 → some k ≠ r := fun k hk1 hk2 e => by
        obtain ⟨o, ho, hoc⟩ := hrr k e.symm
        have : k = w.heap.size ∨ k = w.heap.size + 1 := by omega
        rcases this with rfl | rfl
        · rw [hb2.2] at ho; cases ho; cases hoc
        · rw [hb2.1] at ho; cases ho; cases hoc
      have s0 : (Wa.putObj (w.heap.size + 1) (.loop (rc .busy none))).heap.size = Wa.heap.size := by simp [World.putObj]
      have hb3 : Bk .busy none C := ⟨(hst.same _ (by omega) (by omega) (hne _ (by omega) (by omega))).trans hb2.1, (hst.same _ (by omega) (by omega) (hne _ (by omega) (by omega))).trans hb2.2⟩
      have h3 : (Instr.endRound (w.heap.size + 1) none).run P C = .ok (.bool true) (C.putObj (w.heap.size + 1) (.loop (rc .ready none))) := by
        rw [run_endRound (P := P) none hb3.1]; rw [hrc]; rfl
      refine ⟨_, _, h3, rfl, r', ⟨(hI r').putObj _ hi3 (by omega) hb3.1 rfl, bkput hb3⟩, ?_, ?_, ?_⟩
      · have := hst.size; simp [World.putObj] at this ⊢; omega
      · intro k hk1 hk2 hk3
        rw [World.putObj_heap_other (by omega), hst.same k (by omega) (by omega) hk3, World.putObj_heap_other (by omega)]
        exact hbl.block k hk2
      · rcases hst.row with h | h
        · exact .inl h
        · exact .inr fun g e => by have := h g e; omega
    | ret => exact hp.elim
    | exit id => exact hp.elim
    | goto t => exact hp.elim
    | panic ch => exact hp.elim
    | outgrown => exact hp.elim
  · rintro e C ⟨⟨v, rfl⟩, r, hi, hb⟩
    have h3 := run_endLoop (P := P) hb.1 (by rw [hrc]; simp)
    exact ⟨none, _, by rw [h3, hrc], hdone _ r _ (Nat.le_refl _) ((hI r).putObj _ hi (by omega) hb.1 rfl) ((World.putObj_heap_other (by omega)).trans hb.2)⟩
end Go.PM
namespace Go.PM
open Go.RowKit
/-- a move as a step -/
def stpM (m : Mv) : St := (0, m.1, m.2)
def stL (ms : List Mv) : List St := ms.map stpM
theorem three_new (w : World) (a b c : Value) (t : TypeId) : ∀ j u, [a, b, c][j]? = some u → (w.alloc (.cells #[a, b, c] t)).cell? ((⟨w.heap.size, 0, none⟩ : Addr).add j) = some u := by
  intro j u hj
  match j, hj with
  | 0, hj => simp at hj; subst hj; simp [Addr.add]
  | 1, hj => simp at hj; subst hj; simp [Addr.add]
  | 2, hj => simp at hj; subst hj; simp [Addr.add]
theorem wpListIn_lies {F : Fence} {k : Nat} {P : Program} {w : World} {ops : Array Oper} {rest : List Oper} {o : Oper} {a : Act} {Q : Exit → Act → World → Prop} (hgd : o.guard = none) (s x : Operand) (t : TypeId)
    (ho : o.op = .call { callee := .builtin .append, args := #[s, x], argTypes := #[t, t] })
    (base : Nat) (e : TypeId) (i : TypeInfo) (z : Value) (size bytes : Nat) (ht : P.underlying t = some (.slice e)) (hi : P.info? e = some i) (hz : i.zero = some z)
    (hsize : i.size = size) (hby : i.bytes = bytes) (hzs : z.cells.size = size) (hsz : 0 < size)
    (v : Value) (n : Nat) (xs : List Value) (hs : a.eval s = v) (hown : w.ownsRow base e size v n xs)
    (ad : Addr) (m c : Nat) (news : List Value) (hx : a.eval x = .slice (some ad) m c) (hl : news.length = m * size) (hnews : ∀ j u, news[j]? = some u → w.cell? (ad.add j) = some u) (h1 : ∀ u ∈ news, u.oneCell' = true)
    (hm : 0 < m) (h63 : n + m ≤ maxLen) (hbytes : (n + m) * bytes ≤ 140737488355328) (hbase : base ≤ w.heap.size)
    (h : ∀ g cap w', w'.ownsRow base e size (.slice (some ⟨g, 0, none⟩) (n + m) cap) (n + m) (xs ++ news) → w.grownBy w' v.ownBlock → (v.ownBlock = some g ∨ g = w.heap.size) → g < w'.heap.size → wpListIn F k P ops Q rest (a.put o.dst (.slice (some ⟨g, 0, none⟩) (n + m) cap)) w') : wpListIn F k P ops Q (o :: rest) a w := by
  refine wpListIn_plain hgd fun K hK' => ?_
  obtain ⟨g, cap, w', hr, h2, h3, h4, h5⟩ := run_append_lies (P := P) w t o.type base e i z size bytes ht hi hz hsize hby hzs hsz v n xs hown ad m c news hl hnews h1 hm h63 hbytes hbase _ rfl
  unfold Oper.wpIn
  refine ⟨?_, ?_⟩
  · simp [Oper.about, ho, resolve, Target.leads, Sem.run_pure]
  · rw [Oper.semAt_plain F _ _ (by rw [ho]; intro c hc'; cases hc')]
    simp [execOp, ho, resolve, invoke, builtin, hs, hx, hr, Result.andThen]
    exact hK' _ _ (h g cap w' h2 h3 h4 h5)
/-- a row of one's own, and where it lies -/
def RowAt (A : World) (bx : Nat) (bt base : Nat) (e : TypeId) (size : Nat) (r : Option Nat) (n : Nat) (cs : List Value) (o : Value) : Prop :=
  At A bx bt #[o] ∧ A.ownsRow base e size o n cs ∧ o.ownBlock = r
theorem RowAt.turn {A A' : World} {bx bt base : Nat} {e : TypeId} {size : Nat} {r : Option Nat} {n : Nat} {cs : List Value} {o : Value} {row : Option Nat} (h : RowAt A bx bt base e size r n cs o) (hg : A.grownBy A' row) (hr : ∀ q, row = some q → ∃ ob : Obj, A.heap[q]? = some ob ∧ ob.isCells = false) : RowAt A' bx bt base e size r n cs o :=
  ⟨h.1.turn hg hr, own_turn h.2.1 hg hr, h.2.2⟩
theorem RowAt.lives {A : World} {bx bt base : Nat} {e : TypeId} {size : Nat} {r : Option Nat} {n : Nat} {cs : List Value} {o : Value} (h : RowAt A bx bt base e size r n cs o) : ∀ g, r = some g → ∃ ob : Obj, A.heap[g]? = some ob ∧ ob.isCells = true := by
  intro g hg
  obtain ⟨_, h2, h3⟩ := h
  rcases h2.2 with ⟨rfl, _⟩ | ⟨g', cap, cur, rfl, _, hh, _⟩
  · rw [hg] at h3; cases h3
  · rw [hg] at h3
    cases h3
    exact ⟨_, hh, rfl⟩
end Go.PM
namespace Go.Proofs.YtplapaojgcloaaaGreatDoor
open Go.RowKit Go.PM
attribute [local go_sem] Oper.semAt_some

theorem infoStp : (Tryz.prog.info? 51).map (fun i => (i.zero, i.size, i.bytes)) = some (some (.agg #[.int .i64 0, .string ⟨#[]⟩, .string ⟨#[]⟩]), 3, 40) := by kernel_rfl
set_option maxRecDepth 100000 in
set_option maxHeartbeats 2000000 in
/-- the moves that a function hands out, as a list of steps -/
theorem collS_c {Pr : World → Prop} (gf : Nat) (lf lb : Array Value) (eg : ∀ args W, (callFunc gf args).run Tryz.prog W = .ok (.enter gf args) W) (xs : List Mv) (hit : IterR Pr Fence.wide 4 Tryz.prog gf (fun y => lf ++ #[y] ++ lb) (fun m : Mv => #[.agg #[.int .i64 0, .string m.1, .string m.2]]) xs)
    (w : World) (hPr : ∀ A, Below w.heap.size w A → Pr A) (hlen : xs.length ≤ 1048575) :
    Calls Tryz.prog 78 #[.slice none 0 0, .func (.func gf) lf lb] w fun e w' => ∃ v', e = .returned v' ∧ w'.ownsRow w.heap.size 51 3 v' xs.length (scells (stL xs)) ∧ Below w.heap.size w w' := by
  refine (callsIn_wide (n := 5)).1 ?_
  refine callsIn_of_wp_marks Tryz.func78 rfl trivial ?_ rfl
  simp only [Tryz.ntmps78, List.size_toArray, List.length_cons, List.length_nil, Nat.reduceAdd, Nat.reduceSub, Array.replicate_succ, Array.replicate_zero, List.push_toArray, List.append_toArray, List.nil_append, List.cons_append]
  have hA0 : At (w.alloc (.cells #[.slice none 0 0] 26)) w.heap.size 26 #[.slice none 0 0] := At.new _ _ _
  have hB0 : Below w.heap.size w (w.alloc (.cells #[.slice none 0 0] 26)) := (Below.refl _ _).alloc (Nat.le_refl _) _
  gi_wp2
  refine range_lawR (F := Fence.wide) (gf := gf) (lf := lf) (lb := lb) rfl (by decide) rfl trivial eg (encs := fun m : Mv => #[.agg #[.int .i64 0, .string m.1, .string m.2]]) (xs := xs)
    hit (fun _ => rfl)
    (fun r pre W => (∃ o, RowAt W w.heap.size 26 w.heap.size 51 3 r pre.length (scells (stL pre)) o) ∧ Below w.heap.size w W) none ?_ ?_ ?_
    (fun m a' W => ∃ b, At W b 51 #[.int .i64 0, .string m.1, .string m.2] ∧ a' = { tmps := #[.slice none 0 0, .func (.func gf) lf lb, .pointer (some ⟨w.heap.size, 0, none⟩), undef, .slice none 0 0, .pointer (some ⟨b, 0, none⟩), .func (.func gf) lf lb, .agg #[.int .i64 0, .string m.1, .string m.2], undef, undef, undef, undef, undef], defers := [] }) ?_ ?_ ?_ ?_
  · rintro r pre A ⟨⟨o, ho⟩, hb⟩
    exact ⟨hPr A hb, ho.lives⟩
  · rintro r s A A' row ⟨⟨o, ho⟩, hb⟩ hg hr
    exact ⟨⟨o, ho.turn hg (fun q e => (hr q e).2)⟩, hb.trans (below_grown hg hb.size (fun g e => by have := (hr g e).1; simp at this; omega))⟩
  · exact ⟨⟨_, hA0, ⟨rfl, .inl ⟨rfl, rfl⟩⟩, rfl⟩, hB0⟩
  · rintro m a' s A A' row ⟨b, k1, k2⟩ hg hr
    exact ⟨b, k1.turn hg (fun r e => (hr r e).2), k2⟩
  · intro l r pre m W K hI hp hsz hK
    obtain ⟨⟨o, k1, k2, k3⟩, k4⟩ := hI
    have hbl : Below W.heap.size W (W.alloc (.cells #[.int .i64 0, .string m.1, .string m.2] 51)) := (Below.refl _ _).alloc (Nat.le_refl _) _
    have r1 : (∃ o, RowAt (W.alloc (.cells #[.int .i64 0, .string m.1, .string m.2] 51)) w.heap.size 26 w.heap.size 51 3 r pre.length (scells (stL pre)) o) ∧ Below w.heap.size w (W.alloc (.cells #[.int .i64 0, .string m.1, .string m.2] 51)) :=
      ⟨⟨o, k1.alloc _, own_keep k2 hbl, k3⟩, k4.alloc k4.size _⟩
    have r2 := At.new W 51 #[.int .i64 0, .string m.1, .string m.2]
    clear k1 k2 k3 k4
    gi_wp2
    exact hK _ _ hbl r1 ⟨_, r2, rfl⟩
  · rintro l r pre m a' W ⟨⟨o, k1, k2, k0⟩, k3⟩ ⟨b, q1, rfl⟩ hp hsz
    have hpl : pre.length + 1 ≤ xs.length := by have := hp.length_le; simpa using this
    have hpn : (pre ++ [m]).length = pre.length + 1 := by simp
    have c0 : W.cell? ⟨b, 0, none⟩ = some (.int .i64 0) := q1.cell 0
    have c1 : W.cell? ⟨b, 1, none⟩ = some (.string m.1) := q1.cell 1
    have c2 : W.cell? ⟨b, 2, none⟩ = some (.string m.2) := q1.cell 2
    have c3 : W.cell? ⟨w.heap.size, 0, none⟩ = some o := k1.cell 0
    have hl1 := k1.lt
    have hnw := three_new W (.int .i64 0) (.string m.1) (.string m.2) 51
    gi_wp2_with (gi_at_builtin; refine held ?_)
    unfold Held
    obtain ⟨i0, hi0, hz0, hz1, hz2⟩ := info_parts infoStp
    refine wpListIn_lies rfl (.tmp 8) (.tmp 10) 26 rfl w.heap.size 51 i0 _ 3 40 Tryz.underlying26 hi0 hz0 hz1 hz2 rfl (by omega) o pre.length (scells (stL pre)) (by rfl) (own_keep k2 ((Below.refl _ _).alloc (Nat.le_refl _) _)) ⟨W.heap.size, 0, none⟩ 1 1 [Value.int .i64 0, Value.string m.1, Value.string m.2] (by rfl) rfl hnw
      (by intro u hu; simp at hu; rcases hu with rfl | rfl | rfl <;> rfl) (by omega) (by simp only [maxLen]; omega) (by omega) (by simp; have := k3.size; omega) ?_
    intro g cap W3 hown3 hgrow3 hlies hg3
    have j1 : At W3 w.heap.size 26 #[o] := (k1.alloc (.cells #[.int .i64 0, .string m.1, .string m.2] 51)).grown hgrow3 (own_box_ne k2 k1 (by decide))
    have d1 := j1.cell 0
    have d2 := j1.frozen 0
    have hge := own_block_ge k2
    have hge3 := own_block_ge hown3
    have hne3 := own_box_ne hown3 j1 (by decide)
    have hcs : scells (stL pre) ++ [Value.int .i64 0, Value.string m.1, Value.string m.2] = scells (stL (pre ++ [m])) := by unfold stL; rw [List.map_append, scells_append]; simp [scells, stpM]
    rw [hcs, ← hpn] at hown3
    have m1 : At (W3.setCell ⟨w.heap.size, 0, none⟩ (.slice (some ⟨g, 0, none⟩) (pre.length + 1) cap)) w.heap.size 26 #[.slice (some ⟨g, 0, none⟩) (pre.length + 1) cap] := j1.set 0 _
    have hown4 := hown3.kept (grownBy_setCell' W3 w.heap.size _) (.inr hne3.symm) (w' := W3.setCell ⟨w.heap.size, 0, none⟩ (.slice (some ⟨g, 0, none⟩) (pre.length + 1) cap))
    have hB3 : Below w.heap.size w W3 := (k3.alloc k3.size _).trans (below_grown hgrow3 (by have := k3.size; simp; omega) (fun g e => hge g e))
    have hst : RowStep (w.heap.size + 1) r (some g) W (W3.setCell ⟨w.heap.size, 0, none⟩ (.slice (some ⟨g, 0, none⟩) (pre.length + 1) cap)) := by
      have hz3 := hgrow3.size
      simp at hz3
      refine ⟨by simp [World.size_setCell]; omega, fun k h1 h2 h3 => ?_, ?_⟩
      · rw [heap_setCell_other _ _ _ _ (by simp; omega), hgrow3.block k (by simp; omega) (by rw [k0]; exact h3)]
        exact Below.heap_alloc _ _ _ h2
      · rcases hlies with h | h
        · exact .inl (by rw [← h, k0])
        · exact .inr fun q e => by cases e; rw [h]; simp
    rw [hpn] at hown4
    have fin : ∃ r', ((∃ o, RowAt (W3.setCell ⟨w.heap.size, 0, none⟩ (.slice (some ⟨g, 0, none⟩) (pre.length + 1) cap)) w.heap.size 26 w.heap.size 51 3 r' (pre ++ [m]).length (scells (stL (pre ++ [m]))) o) ∧ Below w.heap.size w (W3.setCell ⟨w.heap.size, 0, none⟩ (.slice (some ⟨g, 0, none⟩) (pre.length + 1) cap))) ∧
        RowStep (w.alloc (.cells #[.slice none 0 0] 26)).heap.size r r' W (W3.setCell ⟨w.heap.size, 0, none⟩ (.slice (some ⟨g, 0, none⟩) (pre.length + 1) cap)) := by
      refine ⟨some g, ⟨⟨_, m1, ?_, rfl⟩, hB3.setCell (by simp) _⟩, by rw [World.size_alloc]; exact hst⟩
      rw [hpn]; exact hown4
    clear hnw c0 c1 c2 c3 k1 k2 k3 q1 hgrow3 hge hcs hown3 hown4 m1 hst hB3 hlies
    gi_wp2
    exact fin
  · intro D r W hD hI hd
    obtain ⟨⟨o, k1, k2, _⟩, k3⟩ := hI
    have c3 : W.cell? ⟨w.heap.size, 0, none⟩ = some o := k1.cell 0
    clear k1
    gi_wp2
    refine ⟨by simp, .inl ⟨D, _, rfl, run_takeDeferred hd, ?_⟩⟩
    exact ⟨_, results_tmp rfl _ _ _, _, rfl, own_turn k2 (grownBy_putObj' W D _) (fun r e => by cases e; exact ⟨_, hd, rfl⟩), k3.trans ⟨rfl, rfl, rfl, by simp [World.putObj], fun k hk => World.putObj_heap_other (by simp at hD; omega)⟩⟩
set_option maxRecDepth 100000 in
theorem collectS_c {Pr : World → Prop} (gf : Nat) (lf lb : Array Value) (eg : ∀ args W, (callFunc gf args).run Tryz.prog W = .ok (.enter gf args) W) (xs : List Mv) (hit : IterR Pr Fence.wide 4 Tryz.prog gf (fun y => lf ++ #[y] ++ lb) (fun m : Mv => #[.agg #[.int .i64 0, .string m.1, .string m.2]]) xs)
    (w : World) (hPr : ∀ A, Below w.heap.size w A → Pr A) (hlen : xs.length ≤ 1048575) :
    Calls Tryz.prog 50 #[.func (.func gf) lf lb] w fun e w' => ∃ v', e = .returned v' ∧ w'.ownsRow w.heap.size 51 3 v' xs.length (scells (stL xs)) ∧ Below w.heap.size w w' := by
  have HC := Lib.hid (collS_c gf lf lb eg xs hit w hPr hlen)
  go_enter Tryz.func50, Tryz.ntmps50
  go_wp2_with (go_at_call 78; refine HC.out.mono ?_; rintro e w' ⟨v', rfl, ho, hb⟩)
  go_ret
  exact ⟨_, rfl, ho, hb⟩
end Go.Proofs.YtplapaojgcloaaaGreatDoor
namespace Go.PM
open Go.RowKit
def runM (ms : List Mv) (f : Nat → UInt8) : Nat → UInt8 := ms.foldl (fun g m => updS g (cidx m.1) (rdS g m.2)) f
theorem runM_cons (m : Mv) (ms : List Mv) (f : Nat → UInt8) : runM (m :: ms) f = runM ms (updS f (cidx m.1) (rdS f m.2)) := rfl
theorem runS_stL (ms : List Mv) (f : Nat → UInt8) : runS (stL ms) (stL ms).length f = runM ms f := by
  unfold runS runM stL
  rw [List.take_length, List.foldl_map]
  rfl
theorem spT_cell : isC spT = true ∧ cidx spT = 9 := by decide +kernel
/-- what a waiting move reads -/
def okR (a : ByteArray) : Prop := isP a = true ∨ isD a = true ∨ a = spT
theorem cidx_P {a : ByteArray} (h : isP a = true) : isC a = true ∧ cidx a < 9 ∧ nm (cidx a) = a := by
  have h1 := isP_isC h
  have h2 := pidx_spec h
  rw [h1.2]; exact ⟨h1.1, h2⟩
theorem rdS_ne {a b : ByteArray} (ha : okR a) (hb : isP b = true ∨ b = spT) (hne : a ≠ b) (f : Nat → UInt8) (v : UInt8) : rdS (updS f (cidx b) v) a = rdS f a := by
  have hc : isC a = true → cidx a ≠ cidx b := fun h e => by
    rcases ha with ha | ha | ha
    · rcases hb with hb | hb
      · have h1 := (cidx_P ha).2.2; have h2 := (cidx_P hb).2.2
        rw [e, h2] at h1; exact hne h1.symm
      · have h1 := (cidx_P ha).2.1
        rw [e, hb, spT_cell.2] at h1; omega
    · rw [isD_notC ha] at h; cases h
    · rcases hb with hb | hb
      · have h2 := (cidx_P hb).2.1
        rw [← e, ha, spT_cell.2] at h2; omega
      · exact hne (ha.trans hb.symm)
  unfold rdS
  rcases Bool.eq_false_or_eq_true (isC a) with h | h
  · rw [if_pos h, if_pos h, updS, if_neg (hc h)]
  · rw [if_neg (by rw [h]; decide), if_neg (by rw [h]; decide)]
theorem rdS_same {b : ByteArray} (hb : isP b = true ∨ b = spT) (f : Nat → UInt8) (v : UInt8) : rdS (updS f (cidx b) v) b = v := by
  have : isC b = true := by
    rcases hb with hb | hb
    · exact (cidx_P hb).1
    · rw [hb]; exact spT_cell.1
  rw [rdS_cell this, updS, if_pos rfl]
/-- each waiting move reads what its place is to get, and the other places have it -/
structure Due (T : Nat → UInt8) (ws : List Mv) (f : Nat → UInt8) : Prop where
  rd : ∀ m ∈ ws, rdS f m.2 = T (cidx m.1)
  has : ∀ p, p < 9 → nm p ∉ ws.map (·.1) → f p = T p
theorem Due.some_ {T : Nat → UInt8} {ws : List Mv} {f : Nat → UInt8} (h : Due T ws f) (hw : Wt ws) {i : Nat} (hi : i < ws.length) (hf : rdN ws ws[i].1 = 0) :
    Due T (redM ws[i] (ws.eraseIdx i)) (updS f (cidx ws[i].1) (rdS f ws[i].2)) := by
  have hm := List.getElem_mem hi
  have hp := hw.to_ _ hm
  have hz := rdN_zero.1 hf
  have key : ∀ x ∈ ws.eraseIdx i, rdS (updS f (cidx ws[i].1) (rdS f ws[i].2)) x.2 = T (cidx x.1) := fun x hx => by
    have hx1 := erase_mem hx
    rw [rdS_ne (hw.from_ x hx1) (.inl hp) (hz x hx1)]
    exact h.rd x hx1
  refine ⟨fun m' hm' => ?_, fun p hp9 hn => ?_⟩
  · unfold redM at hm'
    split at hm'
    · exact key m' hm'
    · obtain ⟨x, hx, e1, (⟨e2, e3⟩ | ⟨e2, e3⟩)⟩ := instM_mem hm'
      · rw [e3, rdS_same (.inl hp), e1, ← e2]
        exact h.rd x (erase_mem hx)
      · rw [e3]; exact key x hx
  · rw [redM_keys] at hn
    by_cases e : nm p = ws[i].1
    · have : cidx ws[i].1 = p := by rw [← e, (cidx_nm hp9).2]
      rw [this, updS, if_pos rfl, h.rd _ hm, this]
    · rw [updS, if_neg]
      · refine h.has p hp9 fun hk => ?_
        obtain ⟨x, hx, ex⟩ := List.mem_map.1 hk
        rcases erase_or hi hx with h1 | h1
        · exact e (by rw [← ex, h1])
        · exact hn (List.mem_map.2 ⟨x, h1, ex⟩)
      · intro e2
        exact e (by rw [e2]; exact (cidx_P hp).2.2)
theorem Due.none_ {T : Nat → UInt8} {ws : List Mv} {f : Nat → UInt8} (h : Due T ws f) (hw : Wt ws) (h0 : 0 < ws.length) (hn : aheadI ws = none) :
    Due T (redM (spT, ws[0].1) ws) (updS f (cidx spT) (rdS f ws[0].1)) := by
  obtain ⟨_, _, f3⟩ := hw.full hn
  have hz := rdN_zero.1 f3
  have hp := isP_cases (hw.to_ _ (List.getElem_mem h0))
  refine ⟨fun m' hm' => ?_, fun p hp9 hk => ?_⟩
  · unfold redM at hm'
    rw [if_neg (by show ¬ isD ws[0].1 = true; rw [hp.1]; decide)] at hm'
    obtain ⟨x, hx, e1, (⟨e2, e3⟩ | ⟨e2, e3⟩)⟩ := instM_mem hm'
    · rw [e3, rdS_same (.inr rfl), e1, ← h.rd x hx, e2]
    · rw [e3, rdS_ne (hw.from_ x hx) (.inr rfl) (hz x hx)]
      exact h.rd x hx
  · rw [redM_keys] at hk
    rw [updS, spT_cell.2, if_neg (by omega)]
    exact h.has p hp9 hk
theorem ordF_due {T : Nat → UInt8} : ∀ (n : Nat) (ws : List Mv) (f : Nat → UInt8), Wt ws → muW ws ≤ n → Due T ws f → ∀ p, p < 9 → runM (ordF n ws) f p = T p := by
  intro n
  induction n with
  | zero =>
    intro ws f _ hmu h p hp
    have : ws = [] := List.length_eq_zero_iff.1 (by unfold muW at hmu; omega)
    subst this
    exact h.has p hp (by simp)
  | succ n ih =>
    intro ws f hw hmu h p hp
    by_cases h0 : 0 < ws.length
    · cases ha : aheadI ws with
      | some i =>
        obtain ⟨hi, hf⟩ := aheadI_some ha
        rw [ordF_some hi ha, runM_cons]
        exact ih _ _ (hw.some_ hi hf) (by have := muW_some hi ws[i]; omega) (h.some_ hw hi hf) p hp
      | none =>
        rw [ordF_none h0 ha, runM_cons]
        exact ih _ _ (hw.none_ h0 ha).1 (by have := muW_none hw h0 ha; omega) (h.none_ hw h0 ha) p hp
    · have : ws = [] := List.length_eq_zero_iff.1 (by omega)
      subst this
      rw [ordF_nil]
      exact h.has p hp (by simp)
theorem ordF_ok : ∀ (n : Nat) (ws : List Mv), Wt ws → ∀ m ∈ ordF n ws, (isP m.1 = true ∨ m.1 = spT) ∧ okR m.2 := by
  intro n
  induction n with
  | zero => intro ws _ m hm; cases hm
  | succ n ih =>
    intro ws hw m hm
    by_cases h0 : 0 < ws.length
    · cases ha : aheadI ws with
      | some i =>
        obtain ⟨hi, hf⟩ := aheadI_some ha
        rw [ordF_some hi ha, List.mem_cons] at hm
        rcases hm with rfl | hm
        · exact ⟨.inl (hw.to_ _ (List.getElem_mem hi)), hw.from_ _ (List.getElem_mem hi)⟩
        · exact ih _ (hw.some_ hi hf) m hm
      | none =>
        rw [ordF_none h0 ha, List.mem_cons] at hm
        rcases hm with rfl | hm
        · exact ⟨.inr rfl, .inl (hw.to_ _ (List.getElem_mem h0))⟩
        · exact ih _ (hw.none_ h0 ha).1 m hm
    · have : ws = [] := List.length_eq_zero_iff.1 (by omega)
      subst this
      rw [ordF_nil] at hm; cases hm
theorem stOk_M {m : Mv} (h1 : isP m.1 = true ∨ m.1 = spT) (h2 : okR m.2) : stOk (stpM m) = true := by
  have a1 : isC m.1 = true := by
    rcases h1 with h | h
    · exact (cidx_P h).1
    · rw [h]; exact spT_cell.1
  have a2 : (isC m.2 || isD m.2) = true := by
    rcases h2 with h | h | h
    · rw [(cidx_P h).1]; rfl
    · rw [h, Bool.or_true]
    · rw [h]; decide +kernel
  unfold stOk stpM
  simp only [a1, a2]
  rfl
theorem svalid_stL {ms : List Mv} (hl : ms.length ≤ 60) (h : ∀ m ∈ ms, (isP m.1 = true ∨ m.1 = spT) ∧ okR m.2) : svalid (stL ms) = true := by
  unfold svalid
  rw [Bool.and_eq_true, decide_eq_true_eq, List.all_eq_true]
  refine ⟨by unfold stL; rw [List.length_map]; exact hl, fun x hx => ?_⟩
  obtain ⟨m, hm, rfl⟩ := List.mem_map.1 hx
  exact stOk_M (h m hm).1 (h m hm).2
/-- steps of moves that give each place its value are right -/
theorem right_of_run {ms xs : List Mv} (hv : svalid (stL ms) = true) (hx : MV xs) (h : ∀ p, p < 9 → runM ms nmT p = rdS nmT (srcM xs (nm p))) : irB (stL ms) xs = true := by
  rw [← irB_eq (stL ms) xs hv hx, List.all_eq_true]
  intro p hp
  rw [decide_eq_true_eq]
  by_cases h9 : p < 9
  · rw [if_pos h9, aoS, if_pos h9, srcM_nm hx h9]
    have := h p h9
    rw [← runS_stL] at this
    exact this
  · rw [if_neg h9, aoS, if_neg h9]
theorem busy_due {xs : List Mv} (_hx : MV xs) : Due (fun p => rdS nmT (srcM xs (nm p))) (busyF xs 9) nmT := by
  have hl : busyF xs 9 = lsF (fun p => srcM xs (nm p)) 9 := rfl
  refine ⟨fun m hm => ?_, fun p hp hn => ?_⟩
  · rw [hl] at hm
    obtain ⟨p, hp, _, rfl⟩ := lsF_mem hm
    show _ = rdS nmT (srcM xs (nm (cidx (nm p))))
    rw [(cidx_nm hp).2]
  · have : srcM xs (nm p) = nm p := by
      refine Classical.not_not.1 fun hne => hn ?_
      rw [hl]
      exact List.mem_map.2 ⟨(nm p, srcM xs (nm p)), List.mem_map.2 ⟨p, List.mem_filter.2 ⟨by simpa using hp, by simpa [lsH] using hne⟩, rfl⟩, rfl⟩
    show nmT p = rdS nmT (srcM xs (nm p))
    rw [this, rdS_nm nmT hp]
theorem busy_mu {xs : List Mv} : muW (busyF xs 9) ≤ 19 := by
  have := busyF_len xs 9
  unfold muW
  split <;> omega
theorem ordM_yes {xs : List Mv} (h : MV xs) : ordM xs = ordF 19 (busyF xs 9) := if_pos (by simpa [mvalid] using h)
theorem ordM_valid {xs : List Mv} (h : MV xs) : svalid (stL (ordM xs)) = true := by
  rw [ordM_yes h]
  exact svalid_stL (by have := ordF_len 19 (busyF xs 9); omega) (ordF_ok 19 _ (busyF_Wt h))
/-- the steps of an order do the moves -/
theorem ordM_right {xs : List Mv} (h : MV xs) : irB (stL (ordM xs)) xs = true := by
  refine right_of_run (ordM_valid h) h fun p hp => ?_
  rw [ordM_yes h]
  exact ordF_due 19 _ nmT (busyF_Wt h) busy_mu (busy_due h) p hp
end Go.PM
namespace Go.PE
open Go.PM Go.PD Go.RowKit Go.Lib

/-- states that give the cells of a set the same -/
def Ag (n : Nat) (f g : Nat → UInt8) : Prop := ∀ p, p < 11 → n.testBit p = true → f p = g p
def runL (xs : List St) (f : Nat → UInt8) : Nat → UInt8 := xs.foldl (fun g x => doS x g) f
theorem runL_runS (xs : List St) (f : Nat → UInt8) : runS xs xs.length f = runL xs f := by unfold runS runL; rw [List.take_length]
theorem runL_cons (x : St) (xs : List St) (f : Nat → UInt8) : runL (x :: xs) f = runL xs (doS x f) := rfl
theorem do_kept {x : St} (hx : stOk x = true) {n : Nat} (hn : n < 2048) {f g : Nat → UInt8} (h : Ag (aheadN x n) f g) : Ag n (doS x f) (doS x g) := by
  intro p hp hb
  obtain ⟨k, a, b⟩ := x
  rcases st_kind hx with ⟨h1, h2, h3⟩ | ⟨h1, h2, h3⟩
  · obtain rfl : k = 0 := h1
    have ha : isC a = true := h2
    have hb2 : okC b = true := h3
    show (if (0 : Int) = 1 then _ else updS f (cidx a) (rdS f b)) p = (if (0 : Int) = 1 then _ else updS g (cidx a) (rdS g b)) p
    rw [if_neg (by decide), if_neg (by decide)]
    show updS f (cidx a) (rdS f b) p = updS g (cidx a) (rdS g b) p
    unfold updS
    by_cases hpa : p = cidx a
    · rw [if_pos hpa, if_pos hpa]
      rcases Bool.eq_false_or_eq_true (isC b) with hc | hc
      · rw [rdS_cell hc, rdS_cell hc]
        exact h _ (cidx_lt hc) (by rw [ahead_move ha hb2 hn, hc, decide_eq_true rfl]; rfl)
      · rw [rdS_digit hc, rdS_digit hc]
    · rw [if_neg hpa, if_neg hpa]
      exact h p hp (by rw [ahead_move ha hb2 hn, hb, decide_eq_true hpa]; simp)
  · obtain rfl : k = 1 := h1
    have ha : isC a = true := h2
    have hb2 : isC b = true := h3
    unfold doS
    rw [if_pos rfl, if_pos rfl]
    show swS f (cidx a) (cidx b) p = swS g (cidx a) (cidx b) p
    unfold swS
    by_cases hpa : p = cidx a
    · rw [if_pos hpa, if_pos hpa]
      refine h _ (cidx_lt hb2) ?_
      rw [ahead_swap ha hb2]
      by_cases e : cidx b = cidx a
      · rw [if_pos e, e, ← hpa, hb]
      · rw [if_neg e, if_pos rfl, ← hpa, hb]
    · rw [if_neg hpa, if_neg hpa]
      by_cases hpb : p = cidx b
      · rw [if_pos hpb, if_pos hpb]
        refine h _ (cidx_lt ha) ?_
        rw [ahead_swap ha hb2, if_pos rfl, ← hpb, hb]
      · rw [if_neg hpb, if_neg hpb]
        refine h p hp ?_
        rw [ahead_swap ha hb2, if_neg hpa, if_neg hpb, hb]
theorem do_not {x : St} (hx : stOk x = true) {n : Nat} (hk : keptN x n = false) {f g : Nat → UInt8} (h : Ag n f g) : Ag n (doS x f) g := by
  intro p hp hb
  rw [← h p hp hb]
  obtain ⟨k, a, b⟩ := x
  rcases st_kind hx with ⟨h1, h2, h3⟩ | ⟨h1, h2, h3⟩
  · obtain rfl : k = 0 := h1
    have ha : isC a = true := h2
    show (if (0 : Int) = 1 then _ else updS f (cidx a) (rdS f b)) p = f p
    rw [if_neg (by decide)]
    show updS f (cidx a) (rdS f b) p = f p
    unfold updS
    by_cases hpa : p = cidx a
    · rw [if_pos hpa]
      rw [keptN_move ha, ← hpa, hb, Bool.and_true, decide_eq_false_iff_not, ne_eq, Classical.not_not] at hk
      subst hk
      rw [rdS_cell ha, hpa]
    · rw [if_neg hpa]
  · obtain rfl : k = 1 := h1
    have ha : isC a = true := h2
    have hb2 : isC b = true := h3
    unfold doS
    rw [if_pos rfl]
    show swS f (cidx a) (cidx b) p = f p
    unfold swS
    rw [keptN_swap ha hb2] at hk
    by_cases e : a = b
    · subst e
      by_cases hpa : p = cidx a
      · rw [if_pos hpa, hpa]
      · rw [if_neg hpa, if_neg hpa]
    · rw [decide_eq_true e, Bool.true_and, Bool.or_eq_false_iff] at hk
      by_cases hpa : p = cidx a
      · rw [← hpa, hb] at hk; cases hk.1
      · rw [if_neg hpa]
        by_cases hpb : p = cidx b
        · rw [← hpb, hb] at hk; cases hk.2
        · rw [if_neg hpb]
/-- the steps that are kept give the needed places the same -/
theorem bk_run {n : Nat} (hn : n < 2048) : ∀ xs : List St, (∀ x ∈ xs, stOk x = true) → ∀ f g : Nat → UInt8, Ag (bkS xs n).2 f g → Ag n (runL xs f) (runL (bkS xs n).1 g)
  | [], _, _, _, h => h
  | x :: xs, hv, f, g, h => by
    have hx := hv x (List.mem_cons_self ..)
    have hr : ∀ y ∈ xs, stOk y = true := fun y hy => hv y (List.mem_cons_of_mem _ hy)
    have hlt := bkS_lt hn xs
    rw [bkS_cons] at h ⊢
    rcases Bool.eq_false_or_eq_true (keptN x (bkS xs n).2) with hk | hk
    · rw [if_pos hk] at h ⊢
      exact bk_run hn xs hr _ _ (do_kept hx hlt h)
    · rw [if_neg (by rw [hk]; decide)] at h ⊢
      exact bk_run hn xs hr _ _ (do_not hx hk h)
theorem bk_again (n : Nat) : ∀ xs : List St, bkS (bkS xs n).1 n = bkS xs n
  | [] => rfl
  | x :: xs => by
    have ih := bk_again n xs
    rw [bkS_cons]
    rcases Bool.eq_false_or_eq_true (keptN x (bkS xs n).2) with hk | hk
    · rw [if_pos hk]
      show bkS (x :: (bkS xs n).1) n = _
      rw [bkS_cons, ih, if_pos hk]
    · rw [if_neg (by rw [hk]; decide)]; exact ih
theorem bk_valid {xs : List St} (h : svalid xs = true) (n : Nat) : svalid (bkS xs n).1 = true := by
  have h1 := svalid_len h
  have h2 := bkS_len n xs
  rw [svalid_all (fun k hk => sv_mem h _ ((bkS_sub n xs).subset (List.getElem_mem hk)))]
  exact decide_eq_true (by omega)

/-- the steps give wanted places what the moves give them -/
def irfB (xs : List St) (ys : List Mv) (t : ByteArray) : Bool := svalid xs && (mvalid ys && (wvB t && (elN (wnN t.data.toList)).all fun p => decide (runS xs xs.length nmT p = aoS (tabOf ys) nmT p)))
theorem irf_yes {xs : List St} {ys : List Mv} {t : ByteArray} : irfB xs ys t = true ↔ svalid xs = true ∧ MV ys ∧ wvB t = true ∧ ∀ p, p < 9 → (wnN t.data.toList).testBit p = true → runL xs nmT p = aoS (tabOf ys) nmT p := by
  unfold irfB
  simp only [Bool.and_eq_true, List.all_eq_true, decide_eq_true_eq, mvalid, runL_runS]
  constructor
  · rintro ⟨h1, h2, h3, h4⟩
    exact ⟨h1, h2, h3, fun p hp hb => h4 p (el_mem.2 ⟨by omega, hb⟩)⟩
  · rintro ⟨h1, h2, h3, h4⟩
    refine ⟨h1, h2, h3, fun p hp => ?_⟩
    obtain ⟨hp1, hp2⟩ := el_mem.1 hp
    exact h4 p (by rw [wnN_test, Bool.and_eq_true, decide_eq_true_eq] at hp2; exact hp2.1) hp2
theorem wv_all : wvB placesB = true := by decide +kernel
theorem wn_all : ∀ p, p < 9 → (wnN placesB.data.toList).testBit p = true := by decide +kernel
theorem ir_yes {xs : List St} {ys : List Mv} : irB xs ys = true ↔ svalid xs = true ∧ MV ys ∧ ∀ p, p < 9 → runL xs nmT p = aoS (tabOf ys) nmT p := by
  constructor
  · intro h
    have h1 : svalid xs = true := by
      unfold irB at h; rw [Bool.and_eq_true] at h
      have := h.1
      unfold effOk at this; rw [Bool.and_eq_true] at this; exact this.1
    have h2 : MV ys := by
      unfold irB sameM at h; rw [Bool.and_eq_true, Bool.and_eq_true, Bool.and_eq_true] at h
      simpa [mvalid] using h.2.1.2
    rw [← irB_eq xs ys h1 h2, List.all_eq_true] at h
    refine ⟨h1, h2, fun p hp => ?_⟩
    have := h p (List.mem_range.2 (by omega))
    rw [decide_eq_true_eq, if_pos hp] at this
    rw [← runL_runS]; exact this
  · rintro ⟨h1, h2, h3⟩
    rw [← irB_eq xs ys h1 h2, List.all_eq_true]
    intro p hp
    rw [decide_eq_true_eq]
    by_cases h9 : p < 9
    · rw [if_pos h9]
      have := h3 p h9
      rw [← runL_runS] at this; exact this
    · rw [if_neg h9, aoS, if_neg h9]
/-- if all is wanted all has to be right -/
theorem irf_all (xs : List St) (ys : List Mv) : irfB xs ys placesB = irB xs ys := by
  rw [Bool.eq_iff_iff, irf_yes, ir_yes]
  constructor
  · rintro ⟨h1, h2, _, h4⟩; exact ⟨h1, h2, fun p hp => h4 p hp (wn_all p hp)⟩
  · rintro ⟨h1, h2, h3⟩; exact ⟨h1, h2, wv_all, fun p hp _ => h3 p hp⟩
theorem wn_2048 (t : List UInt8) : wnN t < 2048 := Nat.lt_trans (wnN_lt t) (by decide)
/-- and steps that nobody needs are not missed -/
theorem irf_short {xs : List St} {ys : List Mv} {t : ByteArray} (h : irfB xs ys t = true) : irfB (bkS xs (wnN t.data.toList)).1 ys t = true := by
  rw [irf_yes] at h ⊢
  obtain ⟨h1, h2, h3, h4⟩ := h
  refine ⟨bk_valid h1 _, h2, h3, fun p hp hb => ?_⟩
  have := bk_run (wn_2048 t.data.toList) xs (sv_mem h1) nmT nmT (fun _ _ _ => rfl) p (by omega) hb
  rw [← this]; exact h4 p hp hb
theorem irf_wv {xs : List St} {ys : List Mv} {t : ByteArray} (h : irfB xs ys t = true) : wvB t = true := (irf_yes.1 h).2.2.1
theorem irf_not {xs : List St} {ys : List Mv} {t : ByteArray} (h : irfB xs ys t = false) (hr : irB xs ys = true) : wvB t = false := by
  rcases Bool.eq_false_or_eq_true (wvB t) with hw | hw
  · obtain ⟨h1, h2, h3⟩ := ir_yes.1 hr
    rw [irf_yes.2 ⟨h1, h2, hw, fun p hp _ => h3 p hp⟩] at h; cases h
  · exact hw

/-- the moves to wanted places -/
def kwS (ys : List Mv) (n : Nat) (p : Nat) : ByteArray := if n.testBit p then srcM ys (nm p) else nm p
def kwL (ys : List Mv) (n : Nat) : List Mv := lsF (kwS ys n) 9
def kwM (ys : List Mv) (t : ByteArray) : List Mv := if mvalid ys && wvB t then kwL ys (wnN t.data.toList) else []
theorem kwM_yes {ys : List Mv} {t : ByteArray} (h1 : mvalid ys = true) (h2 : wvB t = true) : kwM ys t = kwL ys (wnN t.data.toList) := by unfold kwM; rw [h1, h2]; rfl
theorem kwM_no {ys : List Mv} {t : ByteArray} (h : (mvalid ys && wvB t) = false) : kwM ys t = [] := by unfold kwM; rw [h]; rfl
theorem kw_SVal {ys : List Mv} (h : MV ys) (n : Nat) : SVal (kwS ys n) := fun p hp => by
  unfold kwS; split
  · exact srcM_isS h (isP_nm hp)
  · exact isS_nm hp
theorem kw_MV {ys : List Mv} (h : MV ys) (n : Nat) : MV (kwL ys n) := lsF_MV (kw_SVal h n)
theorem kw_busy (ys : List Mv) (n : Nat) : busyF (kwL ys n) 9 = kwL ys n := lsF_congr fun _ hp => lsF_src _ hp
theorem kw_len (ys : List Mv) (n : Nat) : (kwL ys n).length ≤ 9 := lsF_len _ 9
theorem kwM_MV {ys : List Mv} {t : ByteArray} : MV (kwM ys t) := by
  unfold kwM; split
  · next h => rw [Bool.and_eq_true] at h; exact kw_MV (by simpa [mvalid] using h.1) _
  · exact MV_nil
theorem kwM_len (ys : List Mv) (t : ByteArray) : (kwM ys t).length ≤ 9 := by
  unfold kwM; split
  · exact kw_len _ _
  · simp
theorem kw_filter (ys : List Mv) (n : Nat) : ∀ k, k ≤ 9 → (busyF ys k).filter (fun m => n.testBit (pidx m.1)) = lsF (kwS ys n) k := by
  intro k
  induction k with
  | zero => intro _; rfl
  | succ k ih =>
    intro hk
    have ih := ih (by omega)
    rcases Bool.eq_false_or_eq_true (busyH ys k) with hb | hb
    · rw [busyF_yes ys k hb, List.filter_append, ih]
      have e : pidx (nm k) = k := pidx_nm (by omega)
      rcases Bool.eq_false_or_eq_true (n.testBit k) with ht | ht
      · have hl : lsH (kwS ys n) k = true := by
          unfold lsH kwS; rw [if_pos ht]
          unfold busyH at hb; exact hb
        have hs : kwS ys n k = srcM ys (nm k) := by unfold kwS; rw [if_pos ht]
        rw [lsF_yes _ k hl, hs]
        congr 1
        rw [List.filter_cons, if_pos (by show n.testBit (pidx (nm k)) = true; rw [e, ht])]
        rfl
      · have hl : lsH (kwS ys n) k = false := by
          unfold lsH kwS; rw [if_neg (by rw [ht]; decide)]; simp
        rw [lsF_no _ k hl, List.filter_cons, if_neg (by show ¬ n.testBit (pidx (nm k)) = true; rw [e, ht]; decide)]
        simp
    · have hl : lsH (kwS ys n) k = false := by
        unfold lsH kwS
        unfold busyH at hb
        split
        · exact hb
        · simp
      rw [busyF_no ys k hb, lsF_no _ k hl, ih]
/-- the table of the moves that are kept -/
def ktT (f : Nat → ByteArray) (n : Nat) (p : Nat) : ByteArray := if n.testBit p then f p else emp
theorem kt_src (f : Nat → ByteArray) (n p : Nat) : srcT (ktT f n) p = if n.testBit p then srcT f p else nm p := by
  unfold srcT ktT
  split
  · rfl
  · rw [if_pos rfl]
theorem kt_list {ys : List Mv} (h : MV ys) (n : Nat) : mvT (noIdle (ktT (tabOf ys) n)) (List.range 9) = kwL ys n := by
  rw [mvT_idle]
  refine lsF_congr fun p hp => ?_
  rw [kt_src, srcT_M h hp]; rfl
theorem kw_mem {ys : List Mv} {n : Nat} {m : Mv} (h : m ∈ kwL ys n) : ∃ p, p < 9 ∧ n.testBit p = true ∧ srcM ys (nm p) ≠ nm p ∧ m = (nm p, srcM ys (nm p)) := by
  obtain ⟨p, hp, hne, rfl⟩ := lsF_mem h
  by_cases hb : n.testBit p = true
  · have e : kwS ys n p = srcM ys (nm p) := if_pos hb
    rw [e] at hne ⊢
    exact ⟨p, hp, hb, hne, rfl⟩
  · exact absurd (show kwS ys n p = nm p from if_neg hb) hne

/-- the places from which wanted ones get their values, one behind the other -/
def scL (ys : List Mv) (ps : List Nat) : List UInt8 := ps.flatMap fun p => (srcM ys (nm p)).data.toList
def scN (ys : List Mv) (n : Nat) : Nat := stN (scL ys (elN n))
theorem scL_snoc (ys : List Mv) (ps : List Nat) (p : Nat) : scL ys (ps ++ [p]) = scL ys ps ++ (srcM ys (nm p)).data.toList := by simp [scL]
theorem stN_app1 (l : List UInt8) {a : ByteArray} (h : a.size = 1) : stN (l ++ a.data.toList) = stN l ||| cN a := by
  obtain ⟨c, rfl⟩ := one_of_size h
  show stN (l ++ [c]) = stN l ||| stN [c]
  rw [stN_snoc]
  split
  · next h => rw [stN_one h]
  · next h => rw [stN_no h, Nat.or_zero]
theorem sc_snoc {ys : List Mv} (h : MV ys) (ps : List Nat) {p : Nat} (hp : p < 9) : stN (scL ys (ps ++ [p])) = stN (scL ys ps) ||| cN (srcM ys (nm p)) := by
  rw [scL_snoc, stN_app1 _ (isS_size (srcM_isS h (isP_nm hp)))]
theorem sp_bytes : ∀ p, p < 11 → 9 ≤ p → ∀ c, isS ⟨#[c]⟩ = true → cellsL.getD p 0 ≠ c := by
  intro p hp h9 c hc e
  have : p = 9 ∨ p = 10 := by omega
  rcases this with rfl | rfl
  · subst e; revert hc; decide +kernel
  · subst e; revert hc; decide +kernel
theorem sc_mem {ys : List Mv} (h : MV ys) {ps : List Nat} (hps : ∀ p ∈ ps, p < 9) {c : UInt8} : c ∈ scL ys ps ↔ ∃ p ∈ ps, srcM ys (nm p) = ⟨#[c]⟩ := by
  unfold scL
  rw [List.mem_flatMap]
  constructor
  · rintro ⟨p, hp, hc⟩
    exact ⟨p, hp, (mem_c (isS_size (srcM_isS h (isP_nm (hps p hp)))) c).1 hc⟩
  · rintro ⟨p, hp, hc⟩
    exact ⟨p, hp, (mem_c (isS_size (srcM_isS h (isP_nm (hps p hp)))) c).2 hc⟩
theorem sc_lt {ys : List Mv} (h : MV ys) {ps : List Nat} (hps : ∀ p ∈ ps, p < 9) : stN (scL ys ps) < 512 := by
  refine Nat.lt_pow_two_of_testBit (n := 9) _ fun i hi => ?_
  rw [stN_test]
  by_cases h11 : i < 11
  · rw [decide_eq_true h11, Bool.true_and]
    unfold inTx
    rw [decide_eq_false_iff_not, sc_mem h hps]
    rintro ⟨p, hp, e⟩
    have := srcM_isS h (isP_nm (hps p hp))
    rw [e] at this
    exact sp_bytes i h11 hi _ this rfl
  · rw [decide_eq_false h11]; rfl
theorem sc_names {ys : List Mv} (h : MV ys) {ps : List Nat} (hps : ∀ p ∈ ps, p < 9) : nmN (stN (scL ys ps)) = srB ⟨(scL ys ps).toArray⟩ := by
  have e : wnN (scL ys ps) = stN (scL ys ps) := by
    refine eq_bits (k := 9) (wnN_lt _) (sc_lt h hps) fun p hp => ?_
    rw [wnN_test, stN_test, decide_eq_true hp, decide_eq_true (show p < 11 by omega)]
  rw [← e]
  exact wn_names ⟨(scL ys ps).toArray⟩
theorem el9 {n : Nat} (h : n < 512) : ∀ p ∈ elN n, p < 9 := fun p hp => by
  by_cases h9 : p < 9
  · exact h9
  · have := (el_mem.1 hp).2
    rw [lt_test (k := 9) h (by omega)] at this; cases this
theorem el_9 {n : Nat} (h : n < 512) : elN n = (List.range 9).filter n.testBit := filter9 (lt_test (k := 9) h (by omega)) (lt_test (k := 9) h (by omega))
/-- the names of the places that are needed -/
def nbB (ys : List Mv) (t : ByteArray) : ByteArray := if mvalid ys && wvB t then nmN (scN ys (wnN t.data.toList)) else ⟨#[]⟩
theorem nbB_yes {ys : List Mv} {t : ByteArray} (h1 : mvalid ys = true) (h2 : wvB t = true) : nbB ys t = nmN (scN ys (wnN t.data.toList)) := by unfold nbB; rw [h1, h2]; rfl
theorem nbB_no {ys : List Mv} {t : ByteArray} (h : (mvalid ys && wvB t) = false) : nbB ys t = ⟨#[]⟩ := by unfold nbB; rw [h]; rfl
theorem nmN_size (n : Nat) : (nmN n).size ≤ 11 := pickB_size _ _ _
theorem nbB_size (ys : List Mv) (t : ByteArray) : (nbB ys t).size ≤ 11 := by
  unfold nbB; split
  · exact nmN_size _
  · exact Nat.zero_le _
theorem scN_lt {ys : List Mv} (h : MV ys) (t : List UInt8) : scN ys (wnN t) < 512 := sc_lt h (el9 (wnN_lt t))
/-- the places that are neither wanted nor needed -/
def frN (ys : List Mv) (t : ByteArray) : Nat := anN 511 (wnN t.data.toList ||| scN ys (wnN t.data.toList))
theorem frN_lt (ys : List Mv) (t : ByteArray) : frN ys t < 512 := Nat.lt_of_le_of_lt Nat.and_le_left (by decide)
theorem frN_test (ys : List Mv) (t : ByteArray) (p : Nat) : (frN ys t).testBit p = (decide (p < 9) && !((wnN t.data.toList).testBit p || (scN ys (wnN t.data.toList)).testBit p)) := by
  unfold frN
  rw [anN_test (by decide), t511, Nat.testBit_or]
/-- the spare place, and whether there is one -/
def soB (ys : List Mv) (t : ByteArray) : Bool := mvalid ys && (wvB t && decide (frN ys t ≠ 0))
def spN (ys : List Mv) (t : ByteArray) : Nat := if soB ys t then ctz 64 (frN ys t) else 9
def spB (ys : List Mv) (t : ByteArray) : ByteArray := if soB ys t then nm (ctz 64 (frN ys t)) else ⟨#[]⟩
theorem el_first {n : Nat} (h : n < 2048) (h0 : n ≠ 0) : ctz 64 n ∈ elN n ∧ ∀ p ∈ elN n, ctz 64 n ≤ p := by
  have hs := (el_step n h h0).1
  refine ⟨by rw [hs]; exact List.mem_cons_self .., fun p hp => ?_⟩
  have hsrt : (elN n).Pairwise (· < ·) := List.Pairwise.sublist (List.filter_sublist) List.pairwise_lt_range
  rw [hs] at hp hsrt
  rcases List.mem_cons.1 hp with rfl | hp
  · exact Nat.le_refl _
  · exact Nat.le_of_lt ((List.pairwise_cons.1 hsrt).1 p hp)
theorem so_spec {ys : List Mv} {t : ByteArray} (h : soB ys t = true) : spN ys t < 9 ∧ spB ys t = nm (spN ys t) ∧ (wnN t.data.toList).testBit (spN ys t) = false ∧ (scN ys (wnN t.data.toList)).testBit (spN ys t) = false ∧
    ∀ p, p < spN ys t → (wnN t.data.toList).testBit p = true ∨ (scN ys (wnN t.data.toList)).testBit p = true := by
  have hne : frN ys t ≠ 0 := by
    unfold soB at h; rw [Bool.and_eq_true, Bool.and_eq_true, decide_eq_true_eq] at h; exact h.2.2
  have hl : frN ys t < 2048 := Nat.lt_trans (frN_lt _ _) (by decide)
  have e1 : spN ys t = ctz 64 (frN ys t) := by unfold spN; rw [h]; rfl
  have e2 : spB ys t = nm (ctz 64 (frN ys t)) := by unfold spB; rw [h]; rfl
  obtain ⟨h1, h2⟩ := el_first hl hne
  have h3 := (el_mem.1 h1).2
  have h9 := el9 (frN_lt ys t) _ h1
  rw [frN_test, Bool.and_eq_true, Bool.not_eq_true', Bool.or_eq_false_iff] at h3
  refine ⟨by rw [e1]; exact h9, by rw [e1, e2], by rw [e1]; exact h3.2.1, by rw [e1]; exact h3.2.2, fun p hp => ?_⟩
  rw [e1] at hp
  refine Classical.byContradiction fun hn => ?_
  have hb : (frN ys t).testBit p = true := by
    rw [frN_test, decide_eq_true (show p < 9 by omega), Bool.true_and, Bool.not_eq_true', Bool.or_eq_false_iff]
    constructor
    · cases hw : (wnN t.data.toList).testBit p with
      | false => rfl
      | true => exact absurd (.inl hw) hn
    · cases hw : (scN ys (wnN t.data.toList)).testBit p with
      | false => rfl
      | true => exact absurd (.inr hw) hn
  have := h2 p (el_mem.2 ⟨by omega, hb⟩)
  omega
theorem so_none {ys : List Mv} {t : ByteArray} (h1 : mvalid ys = true) (h2 : wvB t = true) (h : soB ys t = false) : ∀ p, p < 9 → (wnN t.data.toList).testBit p = true ∨ (scN ys (wnN t.data.toList)).testBit p = true := by
  intro p hp
  unfold soB at h
  rw [h1, h2, Bool.true_and, Bool.true_and, decide_eq_false_iff_not, ne_eq, Classical.not_not] at h
  have := frN_test ys t p
  rw [h, Nat.zero_testBit, decide_eq_true hp, Bool.true_and] at this
  have h3 := this.symm
  rw [Bool.not_eq_false', Bool.or_eq_true] at h3
  exact h3
/-- steps with another place in place of the spare one -/
def rnB (s : Nat) (a : ByteArray) : ByteArray := if a = spT then tq s else a
def rnX (s : Nat) (x : St) : St := (x.1, rnB s x.2.1, rnB s x.2.2)
def rnM (s : Nat) (m : Mv) : Mv := (rnB s m.1, rnB s m.2)
theorem rnX_M (s : Nat) (m : Mv) : rnX s (stpM m) = stpM (rnM s m) := rfl
theorem rn_stL (s : Nat) (ms : List Mv) : (stL ms).map (rnX s) = stL (ms.map (rnM s)) := by
  unfold stL; rw [List.map_map, List.map_map]; rfl
theorem rnB_nine (a : ByteArray) : rnB 9 a = a := by
  unfold rnB; split
  · next h => rw [h]; decide +kernel
  · rfl
def owM (ys : List Mv) (t : ByteArray) : List Mv := (ordF 19 (kwM ys t)).map (rnM (spN ys t))
def owS (ys : List Mv) (t : ByteArray) : List St := (stL (ordM (kwM ys t))).map (rnX (spN ys t))
theorem ord_kw (ys : List Mv) (t : ByteArray) : ordM (kwM ys t) = ordF 19 (kwM ys t) := by
  have : busyF (kwM ys t) 9 = kwM ys t := by
    unfold kwM; split
    · exact kw_busy _ _
    · have : ([] : List Mv) = lsF nm 9 := lsF_nm.symm
      rw [this]; exact lsF_congr fun p hp => lsF_src _ hp
  rw [ordM_yes kwM_MV, this]
theorem owS_M (ys : List Mv) (t : ByteArray) : owS ys t = stL (owM ys t) := by unfold owS owM; rw [rn_stL, ord_kw]
theorem stL_len' (ms : List Mv) : (stL ms).length = ms.length := by simp [stL]
theorem owS_len (ys : List Mv) (t : ByteArray) : (owS ys t).length = (ordM (kwM ys t)).length := by unfold owS; rw [List.length_map, stL_len']
theorem owS_no {ys : List Mv} {t : ByteArray} (h : (mvalid ys && wvB t) = false) : owS ys t = [] := by
  have : kwM ys t = [] := kwM_no h
  unfold owS; rw [ord_kw, this, ordF_nil]; rfl
end Go.PE
namespace Go.Proofs.YtplapaojgcloaaaGreatDoor
open Go.RowKit Go.PM

set_option maxRecDepth 100000 in
set_option maxHeartbeats 1000000 in
theorem l1Busy_c (xs : List Mv) (v : Value) (w : World) (hx : RdM w v xs) :
    Calls Tryz.prog 52 #[v] w fun e w' => ∃ v', e = .returned v' ∧ w'.ownsRow w.heap.size 37 2 v' (busyF xs 9).length (mcells (busyF xs 9)) ∧ Below w.heap.size w w' := by
  have HN : Hid (∀ q, q < 9 → (ByteArray.mk #[97, 98, 99, 100, 101, 102, 65, 66, 67]).extract q (q+1) = nm q) := by
    show ∀ q, _
    intro q hq
    match q, hq with
    | 0, _ | 1, _ | 2, _ | 3, _ | 4, _ | 5, _ | 6, _ | 7, _ | 8, _ => decide +kernel
  have HS := Lib.hid (fun W (hW : RdM W v xs) (p : Nat) => l1Source_c xs v (nm p) W hW)
  have HX := Lib.hid (fun W (hW : Below w.heap.size w W) => hx.below hW)
  have hE := World.ownsRow_lit (e := 37) (base := w.heap.size) (size := 2) w #[] 0 (Nat.le_refl _) (Nat.zero_le _) rfl
  go_enter Tryz.func52, Tryz.ntmps52
  go_wp2
  go_loopw [3, 8] (fun o i wr => ∃ (k : Nat), k ≤ 9 ∧ i = .int .i64 k ∧ wr.ownsRow w.heap.size 37 2 o (busyF xs k).length (mcells (busyF xs k)) ∧ Below w.heap.size w wr) (fun _ i _ => 9 - (intOf i).toNat)
  case atStart => exact ⟨0, by omega, rfl, hE, by (repeat' (first | (with_reducible exact Below.refl _ _) | (with_reducible assumption) | (with_reducible refine Below.alloc ?_ ?_ _) | (with_reducible refine Below.drew ?_) | (with_reducible refine Below.setCell ?_ ?_ _) | (with_reducible exact Nat.le_refl _) | omega | ((repeat (first | rewrite [World.size_alloc] | rewrite [World.size_setCell] | rewrite [World.size_drew])); omega) | (simp; omega) | (simp; done)))⟩
  case round =>
    obtain ⟨k, hk, rfl, ho, hb⟩ := hrel
    have hbs := hb.size
    by_cases hlt : k < 9
    · have hex := HN.out k hlt
      have hxr := HX.out wr hb
      have HY := Lib.hid (busyF_yes xs k)
      have HZ := Lib.hid (busyF_no xs k)
      have HH := Lib.hid (show busyH xs k = decide (srcM xs (nm k) ≠ nm k) from rfl)
      have hle := busyF_len xs k
      have hcall := HS.out wr hxr k
      have HC := Lib.hid hcall
      clear hcall
      generalize srcM xs (nm k) = sk at *
      generalize nm k = q at *
      go_wp2_with fail
      refine HC.out.mono ?_
      rintro e w2 ⟨rfl, hb2⟩
      have hb2s := hb2.size
      have ho2 := own_keep ho hb2
      have hbw := hb.trans (hb2.mono hbs)
      have hbws := hbw.size
      have hnw := two_new w2 (.string q) (.string sk) 37
      go_wp2_with (at_builtin; refine app_mv rfl (.tmp 21) (.tmp 25) rfl w.heap.size u3 (busyF xs k) (q, sk) ⟨w2.heap.size, 0, none⟩ 1 (by rfl) (by rfl) ?hown ?hnew ?hlen ?hbase ?_; rotate_left 4; intro v' w3 hown3 hgrow3)
      case hown => exact own_keep ho2 ((Below.refl _ _).alloc (Nat.le_refl _) _)
      try case hnew => exact hnw
      case hlen => omega
      case hbase => simp; omega
      · have h : (!(sk.toList == q.toList)) = true := by assumption
        rw [bne_str] at h
        have hb3 := below_grown hgrow3 (B := w.heap.size) (by simp; omega) (own_block_ge ho)
        go_roundw
        case rel =>
          refine ⟨k + 1, by omega, by go_num, ?_, ?_⟩
          · rw [HY.out (by rw [HH.out]; exact h)]; exact hown3
          · exact Below.trans (by (repeat' (first | (with_reducible exact Below.refl _ _) | (with_reducible assumption) | (with_reducible refine Below.alloc ?_ ?_ _) | (with_reducible refine Below.drew ?_) | (with_reducible refine Below.setCell ?_ ?_ _) | (with_reducible exact Nat.le_refl _) | omega | ((repeat (first | rewrite [World.size_alloc] | rewrite [World.size_setCell] | rewrite [World.size_drew])); omega) | (simp; omega) | (simp; done)))) hb3
        case measure => simp [intOf]; omega
      · have h : (!(sk.toList == q.toList)) = false := by assumption
        rw [bne_str] at h
        go_roundw
        case rel =>
          refine ⟨k + 1, by omega, by go_num, ?_, by (repeat' (first | (with_reducible exact Below.refl _ _) | (with_reducible assumption) | (with_reducible refine Below.alloc ?_ ?_ _) | (with_reducible refine Below.drew ?_) | (with_reducible refine Below.setCell ?_ ?_ _) | (with_reducible exact Nat.le_refl _) | omega | ((repeat (first | rewrite [World.size_alloc] | rewrite [World.size_setCell] | rewrite [World.size_drew])); omega) | (simp; omega) | (simp; done)))⟩
          rw [HZ.out (by rw [HH.out]; exact h)]; exact ho2
        case measure => simp [intOf]; omega
    · have hk9 : k = 9 := by omega
      subst hk9
      go_wp2
      go_ret
      exact ⟨_, rfl, ho, hb⟩

def countI (xs : List Mv) : Int := if mvalid xs then ((busyF xs 9).length : Int) else -1
set_option maxRecDepth 100000 in
theorem imCountBusy_c (xs : List Mv) (v : Value) (w : World) (hx : RdM w v xs) (hn' : xs.length ≤ 1048576) :
    Calls Tryz.prog 46 #[v] w fun e w' => e = .returned (.int .i64 (countI xs)) ∧ Below w.heap.size w w' := by
  rcases Bool.eq_false_or_eq_true (mvalid xs) with h1 | h1
  · have HO : Hid (((dropM xs).length : Int) = countI xs) := by
      show _ = _
      rw [countI, if_pos h1, dropM, if_pos h1, busy_count (by simpa [mvalid] using h1)]
    go_enter Tryz.func46, Tryz.ntmps46
    go_wp2_with fail
    refine (imDropIdle_c xs v _ hx hn').mono ?_
    rintro e w1 ⟨v', he, ho, hb1⟩
    rw [h1] at he
    subst he
    obtain ⟨A, cap, rfl, _⟩ := Rd.of_own ho
    go_wp2
    go_ret
    exact ⟨by rw [← HO.out]; rfl, hb1⟩
  · have HO : Hid (countI xs = -1) := by show _ = _; rw [countI, h1]; rfl
    go_enter Tryz.func46, Tryz.ntmps46
    go_wp2_with fail
    refine (imDropIdle_c xs v _ hx hn').mono ?_
    rintro e w1 ⟨v', he, ho, hb1⟩
    rw [h1] at he
    subst he
    go_wp2
    go_ret
    exact ⟨by rw [HO.out]; rfl, hb1⟩
end Go.Proofs.YtplapaojgcloaaaGreatDoor
namespace Go.PM
open Go.RowKit
section
variable {P : Program}
/-- copy into a row that is known whole, elements of s cells -/
theorem run_copyN (w : World) (dT sT ty elem : TypeId) (s g o dLen dCap : Nat) (a : Addr) (sLen sCap : Nat) (cur : Array Value) (t : TypeId) (cs : List Value)
    (hu : P.underlying dT = some (.slice elem)) (hs : (P.info? elem).map (·.size) = some s)
    (hg : w.heap[g]? = some (.cells cur t (0, 0))) (hn : cs.length = Nat.min sLen dLen * s)
    (hsrc : ∀ j v, cs[j]? = some v → w.cell? (a.add j) = some v) (hfit : o + cs.length ≤ cur.size) (h1 : ∀ v ∈ cs, v.oneCell' = true) :
    (Builtin.copy_ #[dT, sT] ty #[.slice (some ⟨g, o, none⟩) dLen dCap, .slice (some a) sLen sCap]).run P w =
      .ok (goInt (Nat.min sLen dLen : Nat)) (w.setRow g (cur.toList.take o ++ cs ++ cur.toList.drop (o + cs.length)).toArray) := by
  have hl := run_loadCells_list (P := P) w a cs hsrc
  have hst := run_storeCells_at P g o t cs 0 cur w hg (by simpa using hfit) h1
  cases hq : P.info? elem with
  | none => simp [hq] at hs
  | some i =>
    have hi : i.size = s := by simpa [hq] using hs
    simp only [hn] at hl
    rw [← hn] at hl
    simp [Builtin.copy_, run_underlying hu, Builtin.lenOf, Builtin.firstCells, sizeOf, typeInfo, hq, hi, ← hn, hl, hst]
theorem run_copyN0 (w : World) (dT sT ty elem : TypeId) (s : Nat) (d a : Option Addr) (dLen dCap sLen sCap : Nat) (hu : P.underlying dT = some (.slice elem)) (hs : (P.info? elem).map (·.size) = some s) (hn : Nat.min sLen dLen = 0) :
    (Builtin.copy_ #[dT, sT] ty #[.slice d dLen dCap, .slice a sLen sCap]).run P w = .ok (goInt 0) w := by
  cases hq : P.info? elem with
  | none => simp [hq] at hs
  | some i =>
    have hl : ∀ a, (loadCells a 0).run P w = .ok #[] w := fun a => run_loadCells_list (P := P) w a [] (by simp)
    cases d <;> cases a <;> simp [Builtin.copy_, run_underlying hu, Builtin.lenOf, Builtin.firstCells, sizeOf, typeInfo, hq, hn, hl, storeCells]
theorem wpList_copyN {w : World} {ops : Array Oper} {rest : List Oper} {o : Oper} {a : Act} {Q : Exit → Act → World → Prop} (hgd : o.guard = none) (d s : Operand) (dT sT : TypeId)
    (ho : o.op = .call { callee := .builtin .copy, args := #[d, s], argTypes := #[dT, sT] }) (elem : TypeId) (sz : Nat) (hu : P.underlying dT = some (.slice elem)) (hsz : (P.info? elem).map (·.size) = some sz)
    (dp sp : Option Addr) (dLen dCap sLen sCap : Nat) (hd : a.eval d = .slice dp dLen dCap) (hs : a.eval s = .slice sp sLen sCap)
    (g off : Nat) (cur : List Value) (t : TypeId) (hg : w.heap[g]? = some (.cells cur.toArray t (0, 0))) (cs : List Value) (hn : cs.length = Nat.min sLen dLen * sz)
    (hpos : 0 < Nat.min sLen dLen → dp = some ⟨g, off, none⟩ ∧ ∃ ad, sp = some ad ∧ ∀ j v, cs[j]? = some v → w.cell? (ad.add j) = some v)
    (hfit : off + cs.length ≤ cur.length) (h1 : ∀ v ∈ cs, v.oneCell' = true) (B : Nat) (w0 : World) (hb : Below B w0 w) (hBg : B ≤ g)
    (h : ∀ w', Hid (w'.heap[g]? = some (.cells (splice cur off cs).toArray t (0, 0))) → Below B w0 w' → wpList P ops Q rest (a.put o.dst (goInt (Nat.min sLen dLen : Nat))) w') :
    wpList P ops Q (o :: rest) a w := by
  refine wpList_plain hgd fun K hK => ?_
  by_cases h0 : Nat.min sLen dLen = 0
  · obtain rfl : cs = [] := List.eq_nil_of_length_eq_zero (by rw [hn, h0, Nat.zero_mul])
    have hrun := run_copyN0 (P := P) w dT sT o.type elem sz dp sp dLen dCap sLen sCap hu hsz h0
    unfold Oper.wp
    simp [execOp, ho, resolve, invoke, builtin, hd, hs, hrun, Result.andThen]
    have := h w (show _ = _ by simpa [splice] using hg) hb
    rw [h0] at this
    exact hK _ _ this
  · obtain ⟨rfl, ad, rfl, hsrc⟩ := hpos (by omega)
    have hrun := run_copyN (P := P) w dT sT o.type elem sz g off dLen dCap ad sLen sCap cur.toArray t cs hu hsz hg hn hsrc (by simpa using hfit) h1
    unfold Oper.wp
    simp [execOp, ho, resolve, invoke, builtin, hd, hs, hrun, Result.andThen]
    have := h _ (show _ = _ by simpa [splice] using setRow_heap w g _ _ t _ hg) (below_setRow hb hBg _)
    refine hK _ _ ?_
    simpa [splice] using this
end
theorem mcells_one (xs : List Mv) : ∀ v ∈ mcells xs, v.oneCell' = true := by
  intro v hv
  unfold mcells at hv
  obtain ⟨m, _, h⟩ := List.mem_flatMap.1 hv
  simp at h
  rcases h with rfl | rfl <;> rfl
theorem own_at (w : World) (g base : Nat) (e : TypeId) (xs : List Mv) (hg : At w g e (mcells xs).toArray) (hb : base ≤ g) (hn : xs.length ≤ 1048576) :
    w.ownsRow base e 2 (.slice (some ⟨g, 0, none⟩) xs.length xs.length) xs.length (mcells xs) := by
  have hl := mcells_length xs
  have hm : maxLen = 9223372036854775807 := rfl
  refine ⟨hl, .inr ⟨g, xs.length, (mcells xs).toArray, rfl, hb, hg, Nat.le_refl _, by omega, by simp [hl], by simp [← hl]⟩⟩
end Go.PM
