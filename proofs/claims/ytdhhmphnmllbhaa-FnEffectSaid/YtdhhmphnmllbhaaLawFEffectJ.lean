/- Proved: for every input of the form's own reach the law FnEffect answers true and its arguments read afterwards as before; no further condition. -/
import Derived.Test.YtdhhmphnmllbhaaDraw
import Derived.Test.YtdhhmphnmllbhaaOpen
import Derived.Test.YtdhhmphnmllbhaaReaders
import Derived.Test.YtdhhmphnmllbhaaDraw3
import Derived.Test.YtdhhmphnmllbhaaTouch
import Derived.Test.YtdhhmphnmllbhaaRight
import Derived.Test.YtdhhmphnmllbhaaTop3
import Derived.Test.YtdhhmphnmllbhaaEff
import Derived.Test.YtdhhmphnmllbhaaTurn
import Derived.Test.YtdhhmphnmllbhaaNames
import Derived.ChangeKeysEq
import Derived.Test.YtdhhmphnmllbhaaHar
import Derived.Test.YtdhhmphnmllbhaaDrawL3
import Derived.Test.YtdhhmphnmllbhaaTop2
namespace Go.Proofs.Ytdhhmphnmllbhaa
open Go.RowKit Go.PM
open Go.ChangeShapes Go.WideShapes Go.Deep in
set_option maxRecDepth 100000 in
theorem open_bytes {H : Type} {enc : TypeId × Value → H} {W : World} {base fuel : Nat} {spare : Nat → Bool} {held : Bool} {a : Option Addr} {n c : Nat} {x : DataW H × List MemPlace}
    (h : DataW.trod enc Try.prog W base spare held fuel 30 [.slice a n c] = some x) : RdB W W.heap.size (.slice a n c) n := by
  rcases open_slice Try.underlying30 h with ⟨hcs, _⟩ | ⟨ad, len, cap, m, k, D, Pl, hcs, hb, hl, hm, hmm, hx, hi⟩
  · simp at hcs
    obtain ⟨rfl, rfl, rfl⟩ := hcs
    exact ⟨none, 0, rfl, by omega, by omega, fun k hk => absurd hk (Nat.not_lt_zero k)⟩
  · simp at hcs
    obtain ⟨rfl, rfl, rfl⟩ := hcs
    have hC : Try.prog.cellsOf 5 = 1 := by kernel_rfl
    have hml : n ≤ m := by rw [hmm]; split <;> omega
    have hM : maxLen = 9223372036854775807 := rfl
    have hcell : ∀ i, i < n → ∃ kk, W.cell? (ad.add i) = some (.int .u8 kk) ∧ 0 ≤ kk ∧ kk ≤ 255 := fun i hin => by
      obtain ⟨cs', hc', ht⟩ := hi i (by omega)
      rw [hC] at hc'
      obtain ⟨kk, hk, _, hwf⟩ := DataW.trod_int Try.underlying5 ht
      subst hk
      obtain ⟨_, hcl, hat⟩ := World.cells?_some hc'
      have h1 := hat 0 (by omega)
      refine ⟨kk, by simpa [Addr.add] using h1, ?_⟩
      simpa [Lit.wf, IntKind.min, IntKind.max, IntKind.signed, IntKind.bits] using hwf
    clear hi hx h
    refine ⟨some ad, c, rfl, by omega, by omega, fun i hin => ?_⟩
    obtain ⟨b, off, spot⟩ := ad
    have hs : spot = none := by
      obtain ⟨_, h0, _⟩ := hcell 0 (by omega)
      have := World.cell?_spot h0
      simpa [Addr.add] using this
    subst hs
    obtain ⟨kk, h1, hw1, hw2⟩ := hcell i hin
    have hadd : (Addr.mk b off none).add i = ⟨b, off + i, none⟩ := by
      unfold Addr.add; split
      · next h => subst h; rfl
      · rfl
    rw [hadd] at h1
    have hb : b < W.heap.size := by
      rcases Nat.lt_or_ge b W.heap.size with hlt | hge
      · exact hlt
      · simp [World.cell?, Array.getElem?_eq_none hge] at h1
    exact ⟨b, off, kk, rfl, hb, hb, h1, hw1, by omega⟩
end Go.Proofs.Ytdhhmphnmllbhaa
namespace Go.PM
open Go.RowKit
/-- one of a text's letters is the given text -/
def pmH (s c : ByteArray) : Bool := (List.range s.size).any fun i => decide (s.extract i (i + 1) = c)
def pmK (s c : ByteArray) (k : Nat) : Bool := (List.range k).any fun i => decide (s.extract i (i + 1) = c)
theorem pmK_succ (s c : ByteArray) (k : Nat) : pmK s c (k + 1) = (pmK s c k || decide (s.extract k (k + 1) = c)) := by
  simp [pmK, List.range_succ]
theorem pmK_yes {s c : ByteArray} (k : Nat) (hk : k < s.size) (h : s.extract k (k + 1) = c) : pmH s c = true := by
  rw [pmH, List.any_eq_true]
  exact ⟨k, by simpa using hk, decide_eq_true h⟩
theorem extract_at (s : ByteArray) (i : Nat) (h : i < s.size) : s.extract i (i + 1) = ⟨#[s[i]]⟩ := by
  apply ByteArray.ext
  apply Array.ext
  · simp only [ByteArray.data_extract, Array.size_extract]
    have : s.data.size = s.size := rfl
    simp; omega
  · intro j h1 h2
    have hj : j = 0 := by simpa using h2
    subst hj
    simp
    rfl
theorem pmH_one (s : ByteArray) (c : UInt8) : pmH s ⟨#[c]⟩ = decide (c ∈ s.data.toList) := by
  rw [pmH, Bool.eq_iff_iff, List.any_eq_true, decide_eq_true_eq]
  constructor
  · rintro ⟨i, hi, h⟩
    have hi' : i < s.size := by simpa using hi
    have h' := of_decide_eq_true h
    rw [extract_at s i hi'] at h'
    have : s[i] = c := by simpa using h'
    rw [← this]
    exact List.getElem_mem (l := s.data.toList) (n := i) (by simpa using hi')
  · intro h
    obtain ⟨i, hi, e⟩ := List.getElem_of_mem h
    have hi' : i < s.size := by simpa using hi
    refine ⟨i, by simpa using hi', decide_eq_true ?_⟩
    rw [extract_at s i hi', ← e]
    rfl
theorem place_inj : ∀ p < 9, ∀ q < 9, placesL.getD q 0 = placesL.getD p 0 → q = p := by decide +kernel
theorem nm_byte (p : Nat) (hp : p < 9) : nm p = ⟨#[placesL.getD p 0]⟩ := by
  match p, hp with
  | 0, _ | 1, _ | 2, _ | 3, _ | 4, _ | 5, _ | 6, _ | 7, _ | 8, _ => decide +kernel
theorem pmH_names (h : Nat → Bool) (p : Nat) (hp : p < 9) : pmH (namesW h) (nm p) = h p := by
  rw [nm_byte p hp, pmH_one, Bool.eq_iff_iff, decide_eq_true_eq]
  unfold namesW namesL
  simp only [List.mem_map, List.mem_filter, List.mem_range]
  constructor
  · rintro ⟨q, ⟨hq, hh⟩, e⟩
    rw [place_inj p hp q hq e] at hh; exact hh
  · intro hh; exact ⟨p, ⟨hp, hh⟩, rfl⟩
theorem srcM_isS {xs : List Mv} (h : MV xs) {a : ByteArray} (ha : isP a = true) : isS (srcM xs a) = true := by
  unfold srcM
  cases hf : xs.find? (fun m => decide (m.1 = a)) with
  | none => show isS a = true; unfold isS; rw [ha]; rfl
  | some m =>
    have hm := h.1 m (List.mem_of_find?_eq_some hf)
    unfold mok at hm; rw [Bool.and_eq_true] at hm
    exact hm.2
theorem nm_of_isP {a : ByteArray} (h : isP a = true) : ∃ p, p < 9 ∧ a = nm p := by
  obtain ⟨c, rfl⟩ := one_of_size (isP_size h)
  have h2 : c ∈ placesL := by simpa [isP] using h
  simp only [placesL, List.mem_cons, List.not_mem_nil, or_false] at h2
  rcases h2 with rfl | rfl | rfl | rfl | rfl | rfl | rfl | rfl | rfl
  · exact ⟨0, by decide, by decide +kernel⟩
  · exact ⟨1, by decide, by decide +kernel⟩
  · exact ⟨2, by decide, by decide +kernel⟩
  · exact ⟨3, by decide, by decide +kernel⟩
  · exact ⟨4, by decide, by decide +kernel⟩
  · exact ⟨5, by decide, by decide +kernel⟩
  · exact ⟨6, by decide, by decide +kernel⟩
  · exact ⟨7, by decide, by decide +kernel⟩
  · exact ⟨8, by decide, by decide +kernel⟩
end Go.PM
namespace Go.Proofs.Ytdhhmphnmllbhaa
open Go.RowKit Go.PM
theorem pmH_rdrs {xs : List Mv} (h : MV xs) (a : ByteArray) (p : Nat) (hp : p < 9) : pmH (rdrs xs a) (nm p) = (decide (nm p ≠ a) && decide (srcM xs (nm p) = a)) := by
  rw [rdrs, ← rsH_rdH h, pmH_names _ p hp]; rfl
theorem pmH_source {xs : List Mv} (h : MV xs) {a : ByteArray} (ha : isP a = true) (hne : ¬ srcM xs a = a) : pmH (rdrs xs (srcM xs a)) a = true := by
  obtain ⟨p, hp, rfl⟩ := nm_of_isP ha
  rw [pmH_rdrs h _ p hp]
  have h1 : nm p ≠ srcM xs (nm p) := fun e => hne e.symm
  simp [h1]
theorem rdrs_size (xs : List Mv) (a : ByteArray) : (rdrs xs a).size ≤ 9 := namesL_size _ 9

set_option maxHeartbeats 800000 in
theorem pmHas_c (s c : ByteArray) (w : World) (hs : s.size ≤ 1000) :
    Calls Try.prog 37 #[.string s, .string c] w fun e w' => e = .returned (.bool (pmH s c)) ∧ Below w.heap.size w w' := by
  have HF : Hid (pmK s c s.size = pmH s c) := rfl
  go_enter Try.func37, Try.ntmps37
  go_wp2
  go_loopw [5, 8] (fun _ i wr => ∃ (k : Nat), k ≤ s.size ∧ i = .int .i64 k ∧ Hid (pmK s c k = false) ∧ Below w.heap.size w wr) (fun _ i _ => s.size - (intOf i).toNat)
  case atStart => exact ⟨0, by omega, rfl, rfl, Below.refl _ _⟩
  case round =>
    obtain ⟨k, hk, rfl, hp, hb⟩ := hrel
    have hbs := hb.size
    by_cases hlt : k < s.size
    · have i1 : (k : Int) < (s.size : Int) := by omega
      have HS := Lib.hid (pmK_succ s c k)
      have HY := Lib.hid (fun h => pmK_yes (s := s) (c := c) k hlt h)
      have hb2 := beq_str (s.extract k (k + 1)) c
      by_cases he : s.extract k (k + 1) = c
      · have H1 := Lib.hid (HY.out he)
        have q : ((s.extract k (k + 1)).toList == c.toList) = true := by rw [hb2, decide_eq_true he]
        clear hb2 he
        go_wp2
        go_ret
        exact ⟨by rw [H1.out]; rfl, hb⟩
      · have H1 : Hid (pmK s c (k + 1) = false) := by show _ = _; rw [HS.out, hp.out, decide_eq_false he]; rfl
        have q : ((s.extract k (k + 1)).toList == c.toList) = false := by rw [hb2, decide_eq_false he]
        clear hb2 he
        go_wp2
        go_roundw
        case rel => exact ⟨k + 1, by omega, by go_num, H1, hb⟩
        case measure => simp [intOf] <;> omega
    · have hk' : k = s.size := by omega
      have H1 : Hid (pmH s c = false) := by show _ = _; rw [← HF.out, ← hk']; exact hp.out
      clear hk'
      go_wp2
      go_ret
      exact ⟨by rw [H1.out]; rfl, hb⟩
end Go.Proofs.Ytdhhmphnmllbhaa
namespace Go.PM
open Go.RowKit
theorem cell_inj : ∀ p < 11, ∀ q < 11, cellsL.getD q 0 = cellsL.getD p 0 → q = p := by decide +kernel
theorem pmH_pick (h : Nat → Bool) (p : Nat) (hp : p < 11) : pmH (pickB cellsL h 11) ⟨#[cellsL.getD p 0]⟩ = h p := by
  rw [pmH_one, Bool.eq_iff_iff, decide_eq_true_eq]
  unfold pickB pickL
  simp only [List.mem_map, List.mem_filter, List.mem_range]
  constructor
  · rintro ⟨q, ⟨hq, hh⟩, e⟩
    rw [cell_inj p hp q hq e] at hh; exact hh
  · intro hh; exact ⟨p, ⟨hp, hh⟩, rfl⟩
theorem nm_tq {p : Nat} (hp : p < 9) : nm p = tq p := by
  match p, hp with
  | 0, _ | 1, _ | 2, _ | 3, _ | 4, _ | 5, _ | 6, _ | 7, _ | 8, _ => decide +kernel
theorem tq_cell {p : Nat} (hp : p < 11) : isC (tq p) = true ∧ cidx (tq p) = p := by
  match p, hp with
  | 0, _ | 1, _ | 2, _ | 3, _ | 4, _ | 5, _ | 6, _ | 7, _ | 8, _ | 9, _ | 10, _ => decide +kernel
theorem tq_of {a : ByteArray} (h : isC a = true) : tq (cidx a) = a := by
  obtain ⟨c, rfl⟩ := one_of_size (isC_size h)
  have h2 : c ∈ cellsL := by simpa [isC] using h
  show (⟨#[cellsL.getD (cidx ⟨#[c]⟩) 0]⟩ : ByteArray) = _
  rw [(cidx_one h2).2.2]
theorem st_kind {x : St} (h : stOk x = true) : (x.1 = 0 ∧ isC x.2.1 = true ∧ okC x.2.2 = true) ∨ (x.1 = 1 ∧ isC x.2.1 = true ∧ isC x.2.2 = true) := by
  unfold stOk at h
  rw [Bool.or_eq_true] at h
  rcases h with h | h
  · simp only [Bool.and_eq_true, decide_eq_true_eq] at h
    exact .inl ⟨h.1, h.2.1, h.2.2⟩
  · simp only [Bool.and_eq_true, decide_eq_true_eq] at h
    exact .inr ⟨h.1, h.2.1, h.2.2⟩
/-- steps give in every state what they give to names -/
theorem run_names (xs : List St) (h : svalid xs = true) (f : Nat → UInt8) : ∀ k, k ≤ xs.length → ∀ p, p < 11 → runS xs k f p = rdS f ⟨#[runS xs k nmT p]⟩ := by
  intro k
  induction k with
  | zero =>
    intro _ p hp
    rw [runS_zero, runS_zero]
    have := tq_cell hp
    show f p = rdS f (tq p)
    rw [rdS_cell this.1, this.2]
  | succ k ih =>
    intro hk p hp
    have ih := ih (by omega)
    have hkl : k < xs.length := by omega
    rw [runS_succ xs k hkl, runS_succ xs k hkl]
    have hv := svalid_at h k hkl
    generalize xs[k] = x at hv
    generalize runS xs k f = f1 at ih
    generalize runS xs k nmT = g1 at ih
    unfold doS
    rcases st_kind hv with ⟨h1, h2, h3⟩ | ⟨h1, h2, h3⟩
    · rw [if_neg (by omega), if_neg (by omega)]
      unfold updS
      by_cases hpq : p = cidx x.2.1
      · rw [if_pos hpq, if_pos hpq]
        by_cases hc : isC x.2.2 = true
        · rw [rdS_cell hc, rdS_cell hc, ih _ (cidx_lt hc)]
        · have hc' : isC x.2.2 = false := by simpa using hc
          have h4 := fc_one (okC_size h3)
          rw [rdS_digit hc', rdS_digit hc', ← h4, rdS_digit hc']
      · rw [if_neg hpq, if_neg hpq]; exact ih p hp
    · rw [if_pos h1, if_pos h1]
      unfold swS
      by_cases hp1 : p = cidx x.2.1
      · rw [if_pos hp1, if_pos hp1]; exact ih _ (cidx_lt h3)
      · rw [if_neg hp1, if_neg hp1]
        by_cases hp2 : p = cidx x.2.2
        · rw [if_pos hp2, if_pos hp2]; exact ih _ (cidx_lt h2)
        · rw [if_neg hp2, if_neg hp2]; exact ih p hp
/-- what is not touched stays -/
theorem run_stays (xs : List St) (h : svalid xs = true) (f : Nat → UInt8) {p : Nat} (_hp : p < 11) : ∀ k, k ≤ xs.length → tcI xs p k = false → runS xs k f p = f p := by
  intro k
  induction k with
  | zero => intro _ _; rw [runS_zero]
  | succ k ih =>
    intro hk ht
    have hkl : k < xs.length := by omega
    rw [tcI_succ xs p k hkl, Bool.or_eq_false_iff] at ht
    have ih := ih (by omega) ht.1
    rw [runS_succ xs k hkl]
    have hv := svalid_at h k hkl
    have ht2 := ht.2
    generalize xs[k] = x at hv ht2
    generalize runS xs k f = f1 at ih
    unfold tcX at ht2
    rw [Bool.or_eq_false_iff, decide_eq_false_iff_not] at ht2
    have hne : ∀ a, isC a = true → a ≠ tq p → p ≠ cidx a := fun a ha hn e => hn (by rw [e, tq_of ha])
    unfold doS
    rcases st_kind hv with ⟨h1, h2, h3⟩ | ⟨h1, h2, h3⟩
    · rw [if_neg (by omega)]
      unfold updS
      rw [if_neg (hne _ h2 ht2.1)]; exact ih
    · rw [if_pos h1]
      have h4 : x.2.2 ≠ tq p := by simpa [h1] using ht2.2
      unfold swS
      rw [if_neg (hne _ h2 ht2.1), if_neg (hne _ h3 h4)]; exact ih
theorem tcB_pmH {xs : List St} (h : svalid xs = true) {p : Nat} (hp : p < 9) : pmH (tcB xs) (nm p) = tcH xs p := by
  have e : tcB xs = pickB cellsL (tcH xs) 11 := by unfold tcB; rw [h]; rfl
  rw [e, nm_tq hp]
  exact pmH_pick (tcH xs) p (by omega)
/-- the moves that steps do are of touched places -/
theorem eff_touched (xs : List St) : ∀ m ∈ effM xs, m.1 ≠ m.2 ∧ pmH (tcB xs) m.1 = true := by
  intro m hm
  rcases Bool.eq_false_or_eq_true (effOk xs) with ho | ho
  · rw [effM_yes ho] at hm
    have hv : svalid xs = true := by unfold effOk at ho; rw [Bool.and_eq_true] at ho; exact ho.1
    obtain ⟨h1, h2⟩ := List.mem_filter.1 hm
    have h2 : m.1 ≠ m.2 := by simpa using h2
    refine ⟨h2, ?_⟩
    obtain ⟨p, hp, rfl⟩ := List.mem_map.1 h1
    have hp9 : p < 9 := by simpa using hp
    show pmH (tcB xs) (nm p) = true
    rw [tcB_pmH hv hp9, ← tcI_full hv p]
    rcases Bool.eq_false_or_eq_true (tcI xs p xs.length) with ht | ht
    · exact ht
    · exfalso
      have := run_stays xs hv nmT (show p < 11 by omega) xs.length (Nat.le_refl _) ht
      apply h2
      show nm p = ⟨#[effG xs p]⟩
      rw [nm_tq hp9]
      show tq p = ⟨#[runS xs xs.length nmT p]⟩
      rw [this]; rfl
  · rw [effM_no ho] at hm; cases hm
/-- done at once they give to places what the steps give -/
theorem eff_once {xs : List St} (ho : effOk xs = true) {s : ByteArray} (hs : stateV s = true) :
    (mvalid (effM xs) && stateV s) = true ∧ (aoB (effM xs) s).extract 0 9 = (ioB xs s).extract 0 9 ∧ irB xs (effM xs) = true ∧ (aoB (effM xs) s).size = 11 ∧ (ioB xs s).size = 11 := by
  have hv : svalid xs = true := by unfold effOk at ho; rw [Bool.and_eq_true] at ho; exact ho.1
  have hmv : MV (effL (effG xs) 9) := by
    unfold effOk at ho; rw [Bool.and_eq_true] at ho
    simpa [mvalid] using ho.2
  have hM : MV (effM xs) := by rw [effM_yes ho]; exact busyM_MV hmv
  have m1 : mvalid (effM xs) = true := by simpa [mvalid] using hM
  have e1 : aoB (effM xs) s = stB (aoS (tabOf (effM xs)) (ofB s)) := by unfold aoB; rw [m1, hs]; rfl
  have e2 : ioB xs s = stB (runS xs xs.length (ofB s)) := by unfold ioB; rw [hv, hs]; rfl
  refine ⟨by rw [m1, hs]; rfl, ?_, ?_, by rw [e1]; rfl, by rw [e2]; rfl⟩
  · have key : ∀ p, p < 9 → aoS (tabOf (effM xs)) (ofB s) p = runS xs xs.length (ofB s) p := fun p hp => by
      have hk : srcM (effM xs) (nm p) = ⟨#[effG xs p]⟩ := by rw [effM_yes ho, srcM_busy _ _ hmv.2, srcM_effL _ p hp]
      unfold aoS
      rw [if_pos hp, srcM_nm hM hp, hk, run_names xs hv (ofB s) xs.length (Nat.le_refl _) p (by omega)]
      rfl
    rw [e1, e2]
    have e3 : ∀ f : Nat → UInt8, (stB f).extract 0 9 = ⟨#[f 0, f 1, f 2, f 3, f 4, f 5, f 6, f 7, f 8]⟩ := fun f => by
      apply ByteArray.ext
      simp [stB, ByteArray.data_extract]
    rw [e3, e3, key 0 (by omega), key 1 (by omega), key 2 (by omega), key 3 (by omega), key 4 (by omega), key 5 (by omega), key 6 (by omega), key 7 (by omega), key 8 (by omega)]
  · unfold irB sameM
    rw [ho, m1, Bool.true_and, Bool.true_and, Bool.true_and, List.all_eq_true]
    intro p _
    unfold sameAt
    exact decide_eq_true rfl
theorem effM_len (xs : List St) : (effM xs).length ≤ 9 := by
  rcases Bool.eq_false_or_eq_true (effOk xs) with h | h
  · rw [effM_yes h]; exact busyE_le _ 9
  · rw [effM_no h]; exact Nat.zero_le _
theorem ioB_out (xs : List St) (s : ByteArray) (h : (svalid xs && stateV s) = false) : ioB xs s = ⟨#[]⟩ := by unfold ioB; rw [h]; rfl
theorem tcB_size (xs : List St) : (tcB xs).size ≤ 11 := by
  unfold tcB okS
  split
  · exact pickB_size _ _ _
  · exact Nat.zero_le _
end Go.PM
namespace Go.PM
open Go.RowKit
theorem effM_drop {xs : List St} (h : svalid xs = true) : effM xs = dropM (effL (effG xs) 9) := by
  rw [effM, effOk, h, Bool.true_and]; rfl
theorem effM_none {xs : List St} (h : svalid xs = false) : effM xs = [] := by
  rw [effM, effOk, h]; rfl
theorem effOk_none {xs : List St} (h : svalid xs = false) : effOk xs = false := by
  rw [effOk, h]; rfl
end Go.PM
namespace Go.Proofs.Ytdhhmphnmllbhaa
open Go.RowKit Go.PM
attribute [local go_sem] Oper.semAt_some

set_option maxRecDepth 100000 in
set_option maxHeartbeats 2000000 in
theorem imEffectOf_c (xs : List St) (v : Value) (w : World) (hx : RdS w v xs) :
    Calls Try.prog 32 #[v] w fun e w' => ∃ v', e = .returned (.tuple #[v', .bool (effOk xs)]) ∧ w'.ownsRow w.heap.size 37 2 v' (effM xs).length (mcells (effM xs)) ∧ Below w.heap.size w w' := by
  have hsv := Lib.hid (imSequenceValid_c xs v w hx)
  rcases Bool.eq_false_or_eq_true (svalid xs) with h1 | h1
  · have HV : ∀ k (hk : k < xs.length), stOk xs[k] = true := fun k hk => svalid_at h1 k hk
    have HIO : Hid (∀ W, Below w.heap.size w W → Calls Try.prog 70 #[stV nmS, v] W fun e w' => e = .returned (stV (effG xs)) ∧ Below W.heap.size W w') :=
      fun W hW => inOrder_c xs HV v nmS W (hx.below hW)
    have HTX := Lib.hid (fun W => text_c (effG xs) W)
    have HX := Lib.hid (fun k hk => stB_cell (effG xs) k hk)
    have HOK := Lib.hid (show effOk xs = mvalid (effL (effG xs) 9) by rw [effOk, h1, Bool.true_and])
    have HM := Lib.hid (effM_drop h1)
    have hsz : (stB (effG xs)).size = 11 := rfl
    have H1 := Lib.hid h1
    clear h1 hx HV
    generalize effG xs = g at *
    generalize stB g = t at *
    refine (callsIn_wide (n := 5)).1 ?_
    refine callsIn_of_wp_marks Try.func32 rfl trivial ?_ rfl
    simp only [Try.ntmps32, List.size_toArray, List.length_cons, List.length_nil, Nat.reduceAdd, Nat.reduceSub, Array.replicate_succ, Array.replicate_zero, List.push_toArray, List.append_toArray, List.nil_append, List.cons_append]
    gi_wp2_with fail
    refine ⟨trivial, callsIn_wide.2 (hsv.out.mono ?_)⟩
    rintro e w1 ⟨rfl, hb1⟩
    rw [H1.out]
    gi_wp2_with fail
    refine ⟨trivial, callsIn_wide.2 ((stateOfNames_c _).mono ?_)⟩
    rintro e w2 ⟨rfl, hb2⟩
    have b2 := hb1.trans (hb2.mono hb1.size)
    gi_wp2_with fail
    refine ⟨trivial, callsIn_wide.2 ((HIO.out _ b2).mono ?_)⟩
    rintro e w3 ⟨rfl, hb3⟩
    have b3 := b2.trans (hb3.mono b2.size)
    gi_wp2_with fail
    refine ⟨trivial, callsIn_wide.2 ((HTX.out _).mono ?_)⟩
    rintro e w4 ⟨rfl, hb4⟩
    have b4 := b3.trans (hb4.mono b3.size)
    have hs4 := b4.size
    clear hsv HIO HTX hb1 hb2 hb3 hb4 b2 b3
    gi_wp2
    obtain ⟨W0, hW0⟩ : ∃ W0 : World, W0 = (w4.alloc (.cells #[.string t] 9)).alloc (.cells #[.slice none 0 0] 26) := ⟨_, rfl⟩
    have hS0 : W0.heap.size = w4.heap.size + 2 := by rw [hW0]; simp only [World.size_alloc]
    have hB0 : Below w.heap.size w W0 := by rw [hW0]; (repeat' (first | (with_reducible exact Below.refl _ _) | (with_reducible assumption) | (with_reducible refine Below.alloc ?_ ?_ _) | (with_reducible refine Below.drew ?_) | (with_reducible refine Below.setCell ?_ ?_ _) | (with_reducible exact Nat.le_refl _) | omega | ((repeat (first | rewrite [World.size_alloc] | rewrite [World.size_setCell] | rewrite [World.size_drew])); omega) | (simp; omega) | (simp; done)))
    have hA1 : At W0 (w4.heap.size + 1) 26 #[.slice none 0 0] := by
      rw [hW0]; have := At.new (w4.alloc (.cells #[.string t] 9)) 26 #[.slice none 0 0]
      rwa [World.size_alloc] at this
    have hA0 : At W0 w4.heap.size 9 #[.string t] := by
      rw [hW0]; exact (At.new w4 9 #[.string t]).alloc _
    rw [← hW0]
    clear hW0
    refine range_law (F := Fence.wide) (gf := 76) (lf := #[.int .i64 9]) (lb := #[]) rfl (by decide) rfl trivial (fun args w => rfl) (encs := fun p : Nat => #[.int .i64 p]) (xs := List.range 9)
      (below_iter _ _ trivial rfl (by decide)) (fun _ => rfl)
      (fun pre W => ∃ o, At W w4.heap.size 9 #[.string t] ∧ At W (w4.heap.size + 1) 26 #[o] ∧ W.ownsRow (W0.heap.size + 2) 37 2 o (pre.map (effA g)).length (mcells (pre.map (effA g))) ∧ Below w.heap.size w W)
      (fun _ _ _ => False) ?_ (fun _ => ownFrom_pure _ _) ?_
      (fun p => { tmps := #[v, undef, .slice none 0 0, .bool false, .pointer (some ⟨w4.heap.size, 0, none⟩), .pointer (some ⟨w4.heap.size + 1, 0, none⟩), .int .i64 p, v, .bool true, .bool false, stV nmS, v, stV g, .string t, .func (.func 76) #[.int .i64 9] #[], .int .i64 p, undef, undef, undef, undef, undef, undef, undef, undef, undef, undef, undef, undef, undef, undef, undef], defers := [] }) ?_ ?_ ?_ ?_
    · rintro s A A' row ⟨o, k1, k2, k3, k4⟩ hg hr
      exact ⟨o, at_turn k1 hg (fun r e => (hr r e).2), at_turn k2 hg (fun r e => (hr r e).2), row_turn k3 hg (fun r e => (hr r e).2), k4.trans (below_grown hg k4.size (fun g e => by have := (hr g e).1; omega))⟩
    · exact ⟨_, hA0, hA1, ⟨rfl, .inl ⟨rfl, rfl⟩⟩, hB0⟩
    · intro l p W Kc hK
      gi_wp2
      exact hK
    · rintro l2 pre p A ⟨o, k1, k2, k3, k4⟩ hp hsz2
      obtain ⟨hpl, hp9⟩ := pre_len pre p hp
      have i0 : (0 : Int) ≤ (p : Int) := by omega
      have i1 : (p : Int) < 9 := by omega
      have hnm := fun W' => name_c p hp9 W'
      have hex := HX.out p (by omega)
      have c1 : A.drew.cell? ⟨w4.heap.size, 0, none⟩ = some (.string t) := k1.cell 0
      have c2 : A.drew.cell? ⟨w4.heap.size + 1, 0, none⟩ = some o := k2.cell 0
      have HEA : Hid ((pre ++ [p]).map (effA g) = pre.map (effA g) ++ [(nm p, ⟨#[g p]⟩)]) := by show _ = _; simp [effA]
      have hln : (pre.map (effA g)).length = pre.length := by simp
      generalize (⟨#[g p]⟩ : ByteArray) = q at *
      generalize nm p = a at *
      generalize pre.map (effA g) = ys at *
      have hsd : A.drew.heap.size = A.heap.size := rfl
      have j1 : At A.drew w4.heap.size 9 #[.string t] := k1
      have j2 : At A.drew (w4.heap.size + 1) 26 #[o] := k2
      have j3 : A.drew.ownsRow (W0.heap.size + 2) 37 2 o ys.length (mcells ys) := k3
      have j4 : Below w.heap.size w A.drew := k4.drew
      have hnw := two_new A.drew (.string a) (.string q) 37
      gi_wp2
      refine region_late_inRound (F := Fence.wide) (C := fun w' => w' = A.drew) (D := fun w' => w'.cell? ⟨w4.heap.size + 1, 0, none⟩ = some o) 9 rfl (by kernel_rfl) (by kernel_rfl) (by kernel_rfl) _ _ (by rfl) (by rfl) (by rfl) o (fun _ _ _ h => h) (yieldsD_load (by rfl) _ _ (by rfl) _ Try.underlying26 _ (by rfl) o) (fun w' hw => by subst hw; exact c2) rfl ?_
      simp only [List.take_succ_cons, List.take_zero, List.drop_succ_cons, List.drop_zero, Nat.reduceSub, Nat.reduceAdd]
      simp only [Act.put, List.setIfInBounds_toArray, List.set_cons_succ, List.set_cons_zero]
      gi_big_quiet_step (fail)
      refine BigFrame.wpQuietIn_want (fun _ _ _ _ => trivial) rfl (fun K hK => ?_)
      gi_big_quiet_op
      refine ⟨_, callsIn_wide.2 ((hnm _).mono (fun e w' h => ⟨h.1, h.2.symm⟩)), hK _ ?_⟩
      clear hK K
      gi_big_quiet_step (fail)
      gi_big_quiet_step (fail)
      gi_big_quiet_step (fail)
      gi_big_quiet_step (fail)
      gi_big_quiet_step (fail)
      gi_big_quiet_step (fail)
      refine wpQuietIn_nil ?_
      intro w' hw' K hK
      subst hw'
      refine sliceIn_mv (.tmp 24) rfl a q (by rfl) ?_
      refine hK _ _ ((j2.alloc _).cell 0) ?_
      clear hK K
      simp only [Act.put, List.setIfInBounds_toArray, List.set_cons_succ, List.set_cons_zero]
      refine listIn_mv rfl (.tmp 16) (.tmp 25) rfl (W0.heap.size + 2) o ys (a, q) ⟨A.drew.heap.size, 0, none⟩ 1 (by rfl) (by rfl) (own_keep j3 ((Below.refl _ _).alloc (Nat.le_refl _) _)) hnw (by omega) (by simp; omega) ?_
      intro o' W3 hown3 hgrow3
      have m2 : At W3 (w4.heap.size + 1) 26 #[o] := (j2.alloc (.cells #[.string a, .string q] 37)).grown hgrow3 (box_apart j3 j2 (by decide))
      have m1 : At W3 w4.heap.size 9 #[.string t] := (j1.alloc (.cells #[.string a, .string q] 37)).grown hgrow3 (box_apart j3 j1 (by decide))
      have d1 := m2.cell 0
      have d2 := m2.frozen 0
      have hge := own_block_ge j3
      have hK3 : KeepsFrom W0.heap.size A W3 := by
        refine ⟨Nat.le_trans (by simp) hgrow3.size, fun x ob hx1 hx2 hx3 => ?_⟩
        have hx4 := (Array.getElem?_eq_some_iff.1 hx2).1
        refine (hgrow3.block x (by simp; omega) (fun e => ?_)).trans ((Below.heap_alloc A.drew _ _ hx4).trans hx2)
        rcases k3.2 with ⟨rfl, _⟩ | ⟨g, cap, cur, rfl, _, hh, _⟩
        · cases e
        · cases e
          rw [hh] at hx2
          cases hx2
          cases hx3
      have hI3 : KeepsIn (W0.heap.size + 2) 0 A W3 := KeepsIn.zero (Nat.le_trans (by simp) hgrow3.size)
      have hB3 : Below w.heap.size w W3 := (j4.alloc j4.size _).trans (below_grown hgrow3 (by have := j4.size; simp; omega) (fun g hg => by have := hge g hg; omega))
      have hne3 := box_apart hown3 m2 (by decide)
      obtain ⟨A3, cap3, rfl, _⟩ := Rd.of_own hown3
      have n2 : At (W3.setCell ⟨w4.heap.size + 1, 0, none⟩ (.slice A3 (ys ++ [(a, q)]).length cap3)) (w4.heap.size + 1) 26 #[.slice A3 (ys ++ [(a, q)]).length cap3] := m2.set 0 _
      have n1 : At (W3.setCell ⟨w4.heap.size + 1, 0, none⟩ (.slice A3 (ys ++ [(a, q)]).length cap3)) w4.heap.size 9 #[.string t] := m1.grown (grownBy_setCell' W3 (w4.heap.size + 1) _) (by simp)
      have n3 := hown3.kept (grownBy_setCell' W3 (w4.heap.size + 1) (.slice A3 (ys ++ [(a, q)]).length cap3)) (.inr hne3.symm)
      generalize (ys ++ [(a, q)]) = zs at *
      clear hnw c1 c2 k1 k2 k3 k4 j1 j2 j3 j4 hgrow3 hge
      gi_wp2
      exact ⟨hK3.trans ((KeepsOthers.setCell _ _ _).from _), KeepsIn.zero (by rw [World.size_setCell]; exact hI3.size), _, n1, n2, by rw [HEA.out]; exact n3, hB3.setCell (by show w.heap.size ≤ w4.heap.size + 1; omega) _⟩
    · intro D W hD hI hd
      obtain ⟨o, k1, k2, k3, k4⟩ := hI
      have c3 : W.cell? ⟨w4.heap.size + 1, 0, none⟩ = some o := k2.cell 0
      have HDI := Lib.hid (imDropIdle_c (effL g 9) o W (Rd.of_own k3) (by rw [effL_len]; decide))
      clear k1 k2 k3
      gi_wp2_with fail
      refine ⟨trivial, callsIn_wide.2 (HDI.out.mono ?_)⟩
      rintro e w7 ⟨v7, rfl, ho7, hb7⟩
      have hd7 : w7.heap[D]? = some (.deferred (some [])) := (hb7.block D (Array.getElem?_eq_some_iff.1 hd).1).trans hd
      have b7 := k4.trans (hb7.mono k4.size)
      rw [← HM.out] at ho7
      rw [← HOK.out]
      have hown := own_more ho7 k4.size
      clear ho7 hb7 hd HDI
      gi_wp2
      refine ⟨by simp, .inl ⟨D, _, rfl, run_takeDeferred hd7, ?_⟩⟩
      have hW2 : (w7.putObj D (.deferred none)).ownsRow w.heap.size 37 2 v7 (effM xs).length (mcells (effM xs)) :=
        row_turn hown (grownBy_putObj' w7 D _) (fun r e => by cases e; exact ⟨_, hd7, rfl⟩)
      have hR : ∀ tmps : Array Value, tmps.getD 2 undef = v7 → tmps.getD 3 undef = .bool (effOk xs) → (results Try.f32 tmps).run Try.prog (w7.putObj D (.deferred none)) = .ok (.tuple #[v7, .bool (effOk xs)]) (w7.putObj D (.deferred none)) := fun tmps h2 h3 => by
        have h2' : tmps[2]?.getD undef = v7 := by simpa using h2
        have h3' : tmps[3]?.getD undef = .bool (effOk xs) := by simpa using h3
        simp [results, Try.results32, h2', h3']
      exact ⟨_, hR _ rfl rfl, _, rfl, hW2, b7.trans ⟨rfl, rfl, rfl, by simp [World.putObj], fun k hk => World.putObj_heap_other (by have := b7.size; omega)⟩⟩
    · intro _ _ _ _ _ _ hf
      exact hf.elim
  · have HM := Lib.hid (effM_none h1)
    have HOK := Lib.hid (effOk_none h1)
    have H1 := Lib.hid h1
    clear h1 hx
    go_enter Try.func32, Try.ntmps32
    go_wp2_with fail
    refine hsv.out.mono ?_
    rintro e w1 ⟨rfl, hb1⟩
    rw [H1.out]
    go_wp2
    go_ret2
    exact ⟨_, by rw [HOK.out]; rfl, by rw [HM.out]; exact ⟨rfl, .inl ⟨rfl, rfl⟩⟩, by (repeat' (first | (with_reducible exact Below.refl _ _) | (with_reducible assumption) | (with_reducible refine Below.alloc ?_ ?_ _) | (with_reducible refine Below.drew ?_) | (with_reducible refine Below.setCell ?_ ?_ _) | (with_reducible exact Nat.le_refl _) | omega | ((repeat (first | rewrite [World.size_alloc] | rewrite [World.size_setCell] | rewrite [World.size_drew])); omega) | (simp; omega) | (simp; done)))⟩
end Go.Proofs.Ytdhhmphnmllbhaa
namespace Go.PM
open Go.RowKit
/-- the table with the sources of the first k places in it -/
def mix (f : Nat → ByteArray) (k : Nat) : Nat → ByteArray := fun q => if q < k then srcT f q else f q
theorem mix_zero (f : Nat → ByteArray) : mix f 0 = f := by funext q; simp [mix]
theorem mix_at (f : Nat → ByteArray) (k : Nat) : srcT (mix f k) k = srcT f k := by simp [srcT, mix]
theorem mix_set (f : Nat → ByteArray) (k : Nat) (hk : k < 9) : (tabA (mix f k)).setIfInBounds k (.string (srcT f k)) = tabA (mix f (k + 1)) := by
  have h := tabC_set (mix f k) k hk (srcT f k)
  have e : (fun q => if q = k then srcT f k else mix f k q) = mix f (k + 1) := by
    funext q
    by_cases hq : q = k
    · subst hq; simp [mix]
    · by_cases h2 : q < k
      · simp [mix, hq, h2, Nat.lt_succ_of_lt h2]
      · have : ¬ q < k + 1 := by omega
        simp [mix, hq, h2, this]
  rw [e] at h
  exact h
end Go.PM
namespace Go.Proofs.Ytdhhmphnmllbhaa
open Go.RowKit Go.PM
attribute [local go_sem] Oper.semAt_some

theorem results_src (W : World) (b : Nat) (g : Nat → ByteArray) (hA : At W b 62 (tabA g)) (tmps : Array Value) (h2' : tmps.getD 2 undef = .pointer (some ⟨b, 0, none⟩)) :
    (results Try.f89 tmps).run Try.prog W = .ok (tabX g) W := by
  have q0 : W.cell? ⟨b, 0, none⟩ = some (.string (g 0)) := hA.cell 0
  have q1 : W.cell? ⟨b, 1, none⟩ = some (.string (g 1)) := hA.cell 1
  have q2 : W.cell? ⟨b, 2, none⟩ = some (.string (g 2)) := hA.cell 2
  have q3 : W.cell? ⟨b, 3, none⟩ = some (.string (g 3)) := hA.cell 3
  have q4 : W.cell? ⟨b, 4, none⟩ = some (.string (g 4)) := hA.cell 4
  have q5 : W.cell? ⟨b, 5, none⟩ = some (.string (g 5)) := hA.cell 5
  have q6 : W.cell? ⟨b, 6, none⟩ = some (.string (g 6)) := hA.cell 6
  have q7 : W.cell? ⟨b, 7, none⟩ = some (.string (g 7)) := hA.cell 7
  have q8 : W.cell? ⟨b, 8, none⟩ = some (.string (g 8)) := hA.cell 8
  have h2 : tmps[2]?.getD undef = .pointer (some ⟨b, 0, none⟩) := by simpa using h2'
  simp [results, Try.results89, go_sem, h2, q0, q1, q2, q3, q4, q5, q6, q7, q8]
set_option maxRecDepth 100000 in
set_option maxHeartbeats 2000000 in
theorem sources_c (f : Nat → ByteArray) (w : World) :
    Calls Try.prog 89 #[tabX f] w fun e w' => e = .returned (tabX (mix f 9)) ∧ Below w.heap.size w w' := by
  refine (callsIn_wide (n := 5)).1 ?_
  refine callsIn_of_wp_marks Try.func89 rfl trivial ?_ rfl
  simp only [Try.ntmps89, List.size_toArray, List.length_cons, List.length_nil, Nat.reduceAdd, Nat.reduceSub, Array.replicate_succ, Array.replicate_zero, List.push_toArray, List.append_toArray, List.nil_append, List.cons_append]
  gi_wp2
  refine range_law (F := Fence.wide) (gf := 76) (lf := #[.int .i64 9]) (lb := #[]) rfl (by decide) rfl trivial (fun args w => rfl) (encs := fun p : Nat => #[.int .i64 p]) (xs := List.range 9)
    (below_iter _ _ trivial rfl (by decide)) (fun _ => rfl)
    (fun pre W => At W w.heap.size 62 (tabA (mix f pre.length)) ∧ At W (w.heap.size + 1) 62 zA ∧ Below w.heap.size w W)
    (fun _ _ _ => False) ?_ (fun _ => ownFrom_pure _ _) ?_ (fun p => { tmps := #[tabX f, .pointer (some ⟨w.heap.size, 0, none⟩), .pointer (some ⟨w.heap.size + 1, 0, none⟩), .int .i64 p, .func (.func 76) #[.int .i64 9] #[], .int .i64 p, undef, undef, undef, undef, undef, undef], defers := [] }) ?_ ?_ ?_ ?_
  · rintro s A A' row ⟨h1, h2, h3⟩ hg hr
    have hr' : ∀ r, row = some r → w.heap.size + 2 ≤ r := fun r e => by have := (hr r e).1; simp only [World.size_alloc] at this; omega
    refine ⟨(hg.block _ h1.lt (fun e => ?_)).trans h1, (hg.block _ h2.lt (fun e => ?_)).trans h2, h3.trans (below_grown hg h3.size (fun g e => ?_))⟩
    · have := hr' _ e.symm; omega
    · have := hr' _ e.symm; omega
    · have := hr' _ e; omega
  · refine ⟨?_, ?_, ?_⟩
    · rw [List.length_nil, mix_zero]
      exact (At.new w _ _).alloc _
    · have := At.new (w.alloc (.cells (tabA f) 62)) 62 zA
      rwa [World.size_alloc] at this
    · exact ((Below.refl _ _).alloc (Nat.le_refl _) _).alloc (by simp [World.size_alloc]) _
  · intro l p W Kc hK
    gi_wp2
    exact hK
  · rintro l pre p W ⟨h1, h2, h3⟩ hp hsz
    obtain ⟨hl, hp9⟩ := pre_len pre p hp
    rw [hl] at h1
    have HL : Hid ((pre ++ [p]).length = p + 1) := by show _ = _; simp [hl]
    have hms := mix_set f p hp9
    have hsrc := mix_at f p
    have HMS := Lib.hid hms
    have HSR := Lib.hid hsrc
    clear hms hsrc hl
    have hpc : (tabA (mix f p))[p]? = some (.string (mix f p p)) := tabC_at (mix f p) p hp9
    generalize hgm : mix f p = g at *
    have i0 : (0 : Int) ≤ (p : Int) := by omega
    have i1 : (p : Int) < 9 := by omega
    have q0 : W.cell? ⟨w.heap.size, 0, none⟩ = some (.string (g 0)) := h1.cell 0
    have q1 : W.cell? ⟨w.heap.size, 1, none⟩ = some (.string (g 1)) := h1.cell 1
    have q2 : W.cell? ⟨w.heap.size, 2, none⟩ = some (.string (g 2)) := h1.cell 2
    have q3 : W.cell? ⟨w.heap.size, 3, none⟩ = some (.string (g 3)) := h1.cell 3
    have q4 : W.cell? ⟨w.heap.size, 4, none⟩ = some (.string (g 4)) := h1.cell 4
    have q5 : W.cell? ⟨w.heap.size, 5, none⟩ = some (.string (g 5)) := h1.cell 5
    have q6 : W.cell? ⟨w.heap.size, 6, none⟩ = some (.string (g 6)) := h1.cell 6
    have q7 : W.cell? ⟨w.heap.size, 7, none⟩ = some (.string (g 7)) := h1.cell 7
    have q8 : W.cell? ⟨w.heap.size, 8, none⟩ = some (.string (g 8)) := h1.cell 8
    gi_wp2
    refine ⟨trivial, ?_⟩
    refine CallsIn.inRound l (callsIn_wide.2 ((source_c g p hp9 W).mono ?_))
    rintro e W2 ⟨rfl, hb2⟩
    rw [HSR.out]
    have k1 := h1.keep hb2
    have k2 := h2.keep hb2
    have hz1 := h3.size
    have k3 : Below w.heap.size w W2 := h3.trans (hb2.mono hz1)
    have kf := k1.frozen p
    have kc : W2.cell? ⟨w.heap.size, p, none⟩ = some (.string (g p)) := (k1.cell p).trans hpc
    have kl := k1.lt
    clear q0 q1 q2 q3 q4 q5 q6 q7 q8
    gi_wp2
    refine ⟨(keepsFrom_below hb2).trans ((KeepsOthers.setCell _ _ _).from _), KeepsIn.zero (by simp [World.size_setCell]; exact hb2.size), ?_, k2.far (by simp) _, k3.setCell (Nat.le_refl _) _⟩
    rw [HL.out, ← HMS.out]
    exact k1.set p _
  · intro D W hD hI hd
    obtain ⟨h1, h2, h3⟩ := hI
    have hl1 := h1.lt
    have hl2 := h2.lt
    have h1' : At W w.heap.size 62 (tabA (mix f 9)) := h1
    clear h1
    generalize hg9 : mix f 9 = g9 at *
    have hDD : w.heap.size + 2 ≤ D := by simpa [World.size_alloc] using hD

    have q0 : W.cell? ⟨w.heap.size, 0, none⟩ = some (.string (g9 0)) := h1'.cell 0
    have q1 : W.cell? ⟨w.heap.size, 1, none⟩ = some (.string (g9 1)) := h1'.cell 1
    have q2 : W.cell? ⟨w.heap.size, 2, none⟩ = some (.string (g9 2)) := h1'.cell 2
    have q3 : W.cell? ⟨w.heap.size, 3, none⟩ = some (.string (g9 3)) := h1'.cell 3
    have q4 : W.cell? ⟨w.heap.size, 4, none⟩ = some (.string (g9 4)) := h1'.cell 4
    have q5 : W.cell? ⟨w.heap.size, 5, none⟩ = some (.string (g9 5)) := h1'.cell 5
    have q6 : W.cell? ⟨w.heap.size, 6, none⟩ = some (.string (g9 6)) := h1'.cell 6
    have q7 : W.cell? ⟨w.heap.size, 7, none⟩ = some (.string (g9 7)) := h1'.cell 7
    have q8 : W.cell? ⟨w.heap.size, 8, none⟩ = some (.string (g9 8)) := h1'.cell 8
    have p0 : W.cell? ⟨w.heap.size + 1, 0, none⟩ = some (.string ⟨#[]⟩) := h2.cell 0
    have p1 : W.cell? ⟨w.heap.size + 1, 1, none⟩ = some (.string ⟨#[]⟩) := h2.cell 1
    have p2 : W.cell? ⟨w.heap.size + 1, 2, none⟩ = some (.string ⟨#[]⟩) := h2.cell 2
    have p3 : W.cell? ⟨w.heap.size + 1, 3, none⟩ = some (.string ⟨#[]⟩) := h2.cell 3
    have p4 : W.cell? ⟨w.heap.size + 1, 4, none⟩ = some (.string ⟨#[]⟩) := h2.cell 4
    have p5 : W.cell? ⟨w.heap.size + 1, 5, none⟩ = some (.string ⟨#[]⟩) := h2.cell 5
    have p6 : W.cell? ⟨w.heap.size + 1, 6, none⟩ = some (.string ⟨#[]⟩) := h2.cell 6
    have p7 : W.cell? ⟨w.heap.size + 1, 7, none⟩ = some (.string ⟨#[]⟩) := h2.cell 7
    have p8 : W.cell? ⟨w.heap.size + 1, 8, none⟩ = some (.string ⟨#[]⟩) := h2.cell 8
    have z0 : W.frozen? ⟨w.heap.size + 1, 0, none⟩ = false := h2.frozen 0
    have z1 : W.frozen? ⟨w.heap.size + 1, 1, none⟩ = false := h2.frozen 1
    have z2 : W.frozen? ⟨w.heap.size + 1, 2, none⟩ = false := h2.frozen 2
    have z3 : W.frozen? ⟨w.heap.size + 1, 3, none⟩ = false := h2.frozen 3
    have z4 : W.frozen? ⟨w.heap.size + 1, 4, none⟩ = false := h2.frozen 4
    have z5 : W.frozen? ⟨w.heap.size + 1, 5, none⟩ = false := h2.frozen 5
    have z6 : W.frozen? ⟨w.heap.size + 1, 6, none⟩ = false := h2.frozen 6
    have z7 : W.frozen? ⟨w.heap.size + 1, 7, none⟩ = false := h2.frozen 7
    have z8 : W.frozen? ⟨w.heap.size + 1, 8, none⟩ = false := h2.frozen 8
    obtain ⟨W9, hW9⟩ : ∃ W9 : World, W9 = (((((((((W.setCell ⟨w.heap.size + 1, 0, none⟩ (.string (g9 0))).setCell ⟨w.heap.size + 1, 1, none⟩ (.string (g9 1))).setCell ⟨w.heap.size + 1, 2, none⟩ (.string (g9 2))).setCell ⟨w.heap.size + 1, 3, none⟩ (.string (g9 3))).setCell ⟨w.heap.size + 1, 4, none⟩ (.string (g9 4))).setCell ⟨w.heap.size + 1, 5, none⟩ (.string (g9 5))).setCell ⟨w.heap.size + 1, 6, none⟩ (.string (g9 6))).setCell ⟨w.heap.size + 1, 7, none⟩ (.string (g9 7))).setCell ⟨w.heap.size + 1, 8, none⟩ (.string (g9 8))) := ⟨_, rfl⟩
    have a9 : At W9 (w.heap.size + 1) 62 (tabA g9) := by rw [hW9]; exact At.set9 g9 h2
    have b9 : Below w.heap.size w W9 := by
      rw [hW9]
      repeat refine Below.setCell ?_ (Nat.le_succ _) _
      exact h3
    have d9 : W9.heap[D]? = some (.deferred (some [])) := by
      rw [hW9]
      repeat rw [Below.heap_setCell _ _ _ D (by show D ≠ w.heap.size + 1; omega)]
      exact hd
    gi_wp2
    rw [← hW9]
    have fin : LeavesInM Fence.wide 5 Try.prog Try.f89 #[tabX f, .pointer (some ⟨w.heap.size, 0, none⟩), .pointer (some ⟨w.heap.size + 1, 0, none⟩), undef, .func (.func 76) #[.int .i64 9] #[], undef, undef, undef, undef, undef, undef, tabX g9]
        (fun e w' => e = Ending.returned (tabX (mix f 9)) ∧ Below w.heap.size w w') [] .returning (W9.putObj D (.deferred none)) := by
      clear hW9 hd hD
      exact ⟨_, results_src _ (w.heap.size + 1) g9 ((World.putObj_heap_other (by omega)).trans a9) _ rfl, by rw [hg9], b9.trans ⟨rfl, rfl, rfl, by simp [World.putObj], fun k hk => World.putObj_heap_other (by omega)⟩⟩
    exact ⟨by simp, .inl ⟨D, _, rfl, run_takeDeferred d9, fin⟩⟩
  · intro _ _ _ _ _ _ hf
    exact hf.elim
end Go.Proofs.Ytdhhmphnmllbhaa
namespace Go.Proofs.Ytdhhmphnmllbhaa
open Go.RowKit Go.PM
set_option maxRecDepth 100000 in
set_option maxHeartbeats 2000000 in
theorem eq_str (d : Nat) (a b : ByteArray) (W : World) : (Op.equalIn (d + 1) 9 (.string a) (.string b)).run Try.prog W = .ok (a == b) W := by
  simp [Op.equalIn, go_sem]
theorem eq_items (f g : Nat → ByteArray) (W : World) : ∀ is : List Nat, (∀ i ∈ is, i < 9) → (Op.eqItems 9999 9 1 (tabA f) (tabA g) is).run Try.prog W = .ok (is.all fun p => f p == g p) W := by
  intro is
  induction is with
  | nil => intro _; rfl
  | cons i is ih =>
    intro h
    have hi := h i (List.mem_cons_self ..)
    have h1 : (part 9 (tabA f) (i * 1)).run Try.prog W = .ok (.string (f i)) W := run_part_plain (P := Try.prog) W (by kernel_rfl) (by rw [Nat.mul_one]; exact tabC_at f i hi)
    have h2 : (part 9 (tabA g) (i * 1)).run Try.prog W = .ok (.string (g i)) W := run_part_plain (P := Try.prog) W (by kernel_rfl) (by rw [Nat.mul_one]; exact tabC_at g i hi)
    have h3 := eq_str 9998 (f i) (g i) W
    rw [Op.eqItems, Sem.run_bind, h1, Result.andThen_ok, Sem.run_bind, h2, Result.andThen_ok, Sem.run_bind, h3, Result.andThen_ok, List.all_cons]
    cases hb : (f i == g i)
    · rfl
    · rw [if_neg (by decide), ih (fun j hj => h j (List.mem_cons_of_mem _ hj)), Bool.true_and]
theorem eq_tab (f g : Nat → ByteArray) (W : World) : (Op.equal 62 (tabX f) (tabX g)).run Try.prog W = .ok ((List.range 9).all fun p => f p == g p) W := by
  have his : (Try.prog.info? 9).isSome = true := by kernel_rfl
  obtain ⟨i, hi⟩ := Option.isSome_iff_exists.1 his
  have hc : Try.prog.cellsOf 9 = 1 := by kernel_rfl
  have h := run_equalIn_array (P := Try.prog) (w := W) 9999 (t := 62) (e := 9) (n := 9) (tabA f) (tabA g) Try.underlying62 hi
  rw [hc] at h
  exact h.trans (eq_items f g W _ (fun i hi => by simpa using hi))
theorem beq_ba (a b : ByteArray) : (a == b) = decide (a = b) := by
  cases a with | mk a =>
  cases b with | mk b =>
  have h : ((ByteArray.mk a) == (ByteArray.mk b)) = (a == b) := rfl
  rw [h]
  by_cases e : a = b
  · subst e; simp
  · have : ¬ (ByteArray.mk a) = (ByteArray.mk b) := fun x => e (congrArg ByteArray.data x)
    simp [e]
theorem all_beq (f g : Nat → ByteArray) (l : List Nat) : (l.all fun p => f p == g p) = l.all fun p => decide (f p = g p) := by
  have : (fun p => f p == g p) = fun p => decide (f p = g p) := by funext p; exact beq_ba _ _
  rw [this]
end Go.Proofs.Ytdhhmphnmllbhaa
namespace Go.Proofs.Ytdhhmphnmllbhaa
open Go.RowKit Go.PM

set_option maxRecDepth 100000 in
set_option maxHeartbeats 1000000 in
/-- two moves as values are compared text by text -/
theorem eq_mv (a b c d : ByteArray) (W : World) : (Op.equalIn 10000 37 (.agg #[.string a, .string b]) (.agg #[.string c, .string d])).run Try.prog W = .ok (mvEq a b c d) W := by
  have hs : Try.prog.stoodInHeld 37 = false := by kernel_rfl
  have e1 : (a == c) = decide (a = c) := beq_ba _ _
  have e2 : (b == d) = decide (b = d) := beq_ba _ _
  have q1 := eq_str 9998 a c
  have q2 := eq_str 9998 b d
  rw [Op.equalIn]
  generalize hE : Op.equalIn 9999 = E at *
  simp only [mvEq]
  rw [e1] at q1
  rw [e2] at q2
  clear e1 e2 hE
  by_cases h1 : a = c
  · by_cases h2 : b = d
    · subst h1; subst h2
      simp at q1 q2
      simp [go_sem, hs, q1, q2]
    · subst h1
      simp [h2] at q1 q2
      simp [go_sem, hs, q1, q2, h2]
  · simp [h1] at q1
    simp [go_sem, hs, q1, h1]

set_option maxRecDepth 100000 in
set_option maxHeartbeats 1600000 in
theorem pmSame_c (xs ys : List Mv) (v u : Value) (w : World) (hx : RdM w v xs) (hy : RdM w u ys) :
    Calls Try.prog 18 #[v, u] w fun e w' => e = .returned (.bool (decide (xs = ys))) ∧ Below w.heap.size w w' := by
  obtain ⟨A, cap, rfl, hn, hc, hcell⟩ := hx.open
  obtain ⟨A', cap', rfl, hn', hc', hcell'⟩ := hy.open
  clear hx hy
  rcases Nat.lt_or_ge ys.length xs.length with hle | hle
  · have hm : min (xs.length : Int) (ys.length : Int) = ys.length := by omega
    have HLE := Lib.hid hle
    clear hle
    go_enter Try.func18, Try.ntmps18
    go_wp2
    go_loopw [11] (fun i wr => ∃ (k : Nat), k ≤ ys.length ∧ i = .int .i64 k ∧ Hid (xs.take k = ys.take k) ∧ Below w.heap.size w wr) (fun i _ => ys.length - (intOf i).toNat)
    case atStart => exact ⟨0, by omega, rfl, by show _ = _; simp, Below.refl _ _⟩
    case round =>
      obtain ⟨k, hk, rfl, ht, hb⟩ := hrel
      by_cases hlt : k < ys.length
      · have hlt1 : k < xs.length := by have := HLE.out; omega
        have hlt2 : k < ys.length := by have := HLE.out; omega
        obtain ⟨b, off, rfl, hbl, hc1, hc2⟩ := hcell k hlt1
        obtain ⟨b', off', rfl, hbl', hc1', hc2'⟩ := hcell' k hlt2
        have hd1 := (hb.cell (p := ⟨b, off + k * 2, none⟩) hbl).trans hc1
        have hd2 := (hb.cell (p := ⟨b, off + k * 2 + 1, none⟩) hbl).trans hc2
        have hd3 := (hb.cell (p := ⟨b', off' + k * 2, none⟩) hbl').trans hc1'
        have hd4 := (hb.cell (p := ⟨b', off' + k * 2 + 1, none⟩) hbl').trans hc2'
        clear hc1 hc2 hcell hc1' hc2' hcell'
        have i1 : (k : Int) < (ys.length : Int) := by omega
        go_wp2
        have hx1 : ∀ x : Ext w.heap.size wr, x.val.cell? ⟨b, off + k * 2, none⟩ = some (.string xs[k].1) := fun x => (x.property.cell (p := ⟨b, _, none⟩) hbl).trans hd1
        have hx2 : ∀ x : Ext w.heap.size wr, x.val.cell? ⟨b, off + k * 2 + 1, none⟩ = some (.string xs[k].2) := fun x => (x.property.cell (p := ⟨b, _, none⟩) hbl).trans hd2
        have hx3 : ∀ x : Ext w.heap.size wr, x.val.cell? ⟨b', off' + k * 2, none⟩ = some (.string ys[k].1) := fun x => (x.property.cell (p := ⟨b', _, none⟩) hbl').trans hd3
        have hx4 : ∀ x : Ext w.heap.size wr, x.val.cell? ⟨b', off' + k * 2 + 1, none⟩ = some (.string ys[k].2) := fun x => (x.property.cell (p := ⟨b', _, none⟩) hbl').trans hd4
        clear hd1 hd2 hd3 hd4
        have i0 : (0 : Int) ≤ (k : Int) := by omega
        have i2 : (k : Int) < xs.length := by omega
        have i3 : (k : Int) < ys.length := by omega
        have hE := fun W => eq_mv xs[k].1 xs[k].2 ys[k].1 ys[k].2 W
        refine wp_region_ext w.heap.size (by kernel_rfl) (by kernel_rfl) ?_
        repeat (go_big_quiet_step (fail))
        refine wpQuiet_nil ?_
        intro w2 hw'
        obtain ⟨xw, hxw⟩ := hw'
        have hb2 := xw.property
        rw [← hxw] at hb2
        clear hxw xw
        clear hx1 hx2 hx3 hx4 hE
        go_wp2
        · have h : (!mvEq xs[k].1 xs[k].2 ys[k].1 ys[k].2) = true := by assumption
          go_ret
          refine ⟨?_, hb.trans hb2⟩
          have : ¬ xs = ys := by
            intro e; subst e; simp [mvEq] at h
          simp [this]
        · have h : (!mvEq xs[k].1 xs[k].2 ys[k].1 ys[k].2) = false := by assumption
          go_roundw
          case rel =>
            refine ⟨k + 1, by omega, by go_num, ?_, hb.trans hb2⟩
            show _ = _
            simp [mvEq] at h
            rw [take_snoc xs k hlt1, take_snoc ys k hlt2, ht.out, Prod.ext h.1 h.2]
          case measure => simp [intOf]; omega
      · have hk' : k = ys.length := by omega
        have h2 := ht.out
        have h3 := HLE.out
        rw [hk'] at h2
        have HD : Hid (((xs.length : Int) == (ys.length : Int)) = decide (xs = ys)) := by
          show _ = _
          by_cases he : xs.length = ys.length
          · rw [List.take_of_length_le (by omega), List.take_of_length_le (by omega)] at h2
            rw [h2]; simp
          · have h4 : ¬ xs = ys := fun e => he (by rw [e])
            have h5 : ¬ ((xs.length : Int) = (ys.length : Int)) := by omega
            rw [decide_eq_false h4]
            simpa using h5
        clear h2 h3 ht
        go_wp2
        go_ret
        exact ⟨by rw [← HD.out]; rfl, hb⟩
  · have hm : min (xs.length : Int) (ys.length : Int) = xs.length := by omega
    have HLE := Lib.hid hle
    clear hle
    go_enter Try.func18, Try.ntmps18
    go_wp2
    go_loopw [11] (fun i wr => ∃ (k : Nat), k ≤ xs.length ∧ i = .int .i64 k ∧ Hid (xs.take k = ys.take k) ∧ Below w.heap.size w wr) (fun i _ => xs.length - (intOf i).toNat)
    case atStart => exact ⟨0, by omega, rfl, by show _ = _; simp, Below.refl _ _⟩
    case round =>
      obtain ⟨k, hk, rfl, ht, hb⟩ := hrel
      by_cases hlt : k < xs.length
      · have hlt1 : k < xs.length := by have := HLE.out; omega
        have hlt2 : k < ys.length := by have := HLE.out; omega
        obtain ⟨b, off, rfl, hbl, hc1, hc2⟩ := hcell k hlt1
        obtain ⟨b', off', rfl, hbl', hc1', hc2'⟩ := hcell' k hlt2
        have hd1 := (hb.cell (p := ⟨b, off + k * 2, none⟩) hbl).trans hc1
        have hd2 := (hb.cell (p := ⟨b, off + k * 2 + 1, none⟩) hbl).trans hc2
        have hd3 := (hb.cell (p := ⟨b', off' + k * 2, none⟩) hbl').trans hc1'
        have hd4 := (hb.cell (p := ⟨b', off' + k * 2 + 1, none⟩) hbl').trans hc2'
        clear hc1 hc2 hcell hc1' hc2' hcell'
        have i1 : (k : Int) < (xs.length : Int) := by omega
        go_wp2
        have hx1 : ∀ x : Ext w.heap.size wr, x.val.cell? ⟨b, off + k * 2, none⟩ = some (.string xs[k].1) := fun x => (x.property.cell (p := ⟨b, _, none⟩) hbl).trans hd1
        have hx2 : ∀ x : Ext w.heap.size wr, x.val.cell? ⟨b, off + k * 2 + 1, none⟩ = some (.string xs[k].2) := fun x => (x.property.cell (p := ⟨b, _, none⟩) hbl).trans hd2
        have hx3 : ∀ x : Ext w.heap.size wr, x.val.cell? ⟨b', off' + k * 2, none⟩ = some (.string ys[k].1) := fun x => (x.property.cell (p := ⟨b', _, none⟩) hbl').trans hd3
        have hx4 : ∀ x : Ext w.heap.size wr, x.val.cell? ⟨b', off' + k * 2 + 1, none⟩ = some (.string ys[k].2) := fun x => (x.property.cell (p := ⟨b', _, none⟩) hbl').trans hd4
        clear hd1 hd2 hd3 hd4
        have i0 : (0 : Int) ≤ (k : Int) := by omega
        have i2 : (k : Int) < xs.length := by omega
        have i3 : (k : Int) < ys.length := by omega
        have hE := fun W => eq_mv xs[k].1 xs[k].2 ys[k].1 ys[k].2 W
        refine wp_region_ext w.heap.size (by kernel_rfl) (by kernel_rfl) ?_
        repeat (go_big_quiet_step (fail))
        refine wpQuiet_nil ?_
        intro w2 hw'
        obtain ⟨xw, hxw⟩ := hw'
        have hb2 := xw.property
        rw [← hxw] at hb2
        clear hxw xw
        clear hx1 hx2 hx3 hx4 hE
        go_wp2
        · have h : (!mvEq xs[k].1 xs[k].2 ys[k].1 ys[k].2) = true := by assumption
          go_ret
          refine ⟨?_, hb.trans hb2⟩
          have : ¬ xs = ys := by
            intro e; subst e; simp [mvEq] at h
          simp [this]
        · have h : (!mvEq xs[k].1 xs[k].2 ys[k].1 ys[k].2) = false := by assumption
          go_roundw
          case rel =>
            refine ⟨k + 1, by omega, by go_num, ?_, hb.trans hb2⟩
            show _ = _
            simp [mvEq] at h
            rw [take_snoc xs k hlt1, take_snoc ys k hlt2, ht.out, Prod.ext h.1 h.2]
          case measure => simp [intOf]; omega
      · have hk' : k = xs.length := by omega
        have h2 := ht.out
        have h3 := HLE.out
        rw [hk'] at h2
        have HD : Hid (((xs.length : Int) == (ys.length : Int)) = decide (xs = ys)) := by
          show _ = _
          by_cases he : xs.length = ys.length
          · rw [List.take_of_length_le (by omega), List.take_of_length_le (by omega)] at h2
            rw [h2]; simp
          · have h4 : ¬ xs = ys := fun e => he (by rw [e])
            have h5 : ¬ ((xs.length : Int) = (ys.length : Int)) := by omega
            rw [decide_eq_false h4]
            simpa using h5
        clear h2 h3 ht
        go_wp2
        go_ret
        exact ⟨by rw [← HD.out]; rfl, hb⟩
end Go.Proofs.Ytdhhmphnmllbhaa
namespace Go.Proofs.Ytdhhmphnmllbhaa
open Go.RowKit Go.PM
attribute [local go_sem] Oper.semAt_some
set_option maxRecDepth 100000 in
set_option maxHeartbeats 3200000 in
theorem exEffect (w : World) (v0 : Value) (n0 : Nat) (hv : RdB w w.heap.size v0 n0) :
    Calls Try.prog 6 #[v0] w fun e w' => e = .returned (.bool true) ∧ Below w.heap.size w w' := by
  have hv0 := hv
  obtain ⟨A, cap, rfl, hc, hn, _⟩ := hv
  by_cases hbig : 1048576 < n0
  · have t : decide ((n0 : Int) > 1048576) = true := by simp; omega
    go_enter Try.func6, Try.ntmps6
    go_wp2
    go_ret
    exact ⟨rfl, Below.refl _ _⟩
  have t : decide ((n0 : Int) > 1048576) = false := by simp; omega
  have HD := Lib.hid (drawInOrder_c w _ n0 hv0)
  clear hv0
  go_enter Try.func6, Try.ntmps6
  go_wp2_with fail
  refine HD.out.mono ?_
  rintro e w1 ⟨u, xs, s, rfl, ho, ⟨hl, hz⟩, hs5, b1⟩
  have R1 : RdS w1 u xs := Rd.of_own ho
  have HIO := Lib.hid (fun W (R : RdS W u xs) => imInOrder_c xs u s W R (by omega))
  have HSO := Lib.hid (fun W (R : RdS W u xs) => spInOrder_c xs u s W R (by omega))
  have HIE := Lib.hid (fun W (R : RdS W u xs) => imEffectOf_c xs u W R)
  have HSE := Lib.hid (fun W (R : RdS W u xs) => spEffectOf_c xs u W R)
  have HIT := Lib.hid (fun W (R : RdS W u xs) => imTouchedBy_c xs u W R)
  have HST := Lib.hid (fun W (R : RdS W u xs) => spTouchedBy_c xs u W R)
  have HV := Lib.hid (fun W (R : RdS W u xs) => imSequenceValid_c xs u W R)
  have HQ : Hid (∀ zs v u W, RdM W v zs → RdM W u zs → Calls Try.prog 18 #[v, u] W fun e w' => e = .returned (.bool true) ∧ Below W.heap.size W w') := fun zs v u W P Q => by
    have := pmSame_c zs zs v u W P Q
    rwa [show decide (zs = zs) = true by simp] at this
  have HA := Lib.hid (fun v W (P : RdM W v (effM xs)) => imAtOnce_c (effM xs) v s W P (by omega))
  have HR := Lib.hid (fun v W (P : RdS W u xs) (Q : RdM W v (effM xs)) => imIsRight_c xs (effM xs) u v W P Q)
  have HH := Lib.hid (fun c W => pmHas_c (tcB xs) c W (by have := tcB_size xs; omega))
  have HTO := Lib.hid (eff_touched xs)
  have HEO := Lib.hid (fun h1 h2 => @eff_once xs h1 s h2)
  have HOU := Lib.hid (ioB_out xs s)
  have hel := effM_len xs
  have e1 : ((ioB xs s).toList != (ioB xs s).toList) = false := by simp
  have e2 : ((svalid xs && stateV s) != (svalid xs && stateV s)) = false := by simp
  have e3 : (effOk xs != effOk xs) = false := by simp
  have e4 : ((tcB xs).toList != (tcB xs).toList) = false := by simp
  have e5 : (svalid xs != svalid xs) = false := by simp
  obtain ⟨Au, cu, eu, _⟩ := R1.open
  subst eu
  obtain ⟨OKB, hOKB⟩ : ∃ b, (svalid xs && stateV s) = b := ⟨_, rfl⟩
  obtain ⟨iob, hiob⟩ : ∃ b, ioB xs s = b := ⟨_, rfl⟩
  rw [hOKB] at HIO HSO e2
  rw [hiob] at HIO HSO e1
  have HOK := Lib.hid hOKB
  have HIOE := Lib.hid hiob
  clear HD ho hz hl hOKB hiob
  go_wp2_with fail
  refine (HIO.out _ R1).mono ?_
  rintro e w2 ⟨rfl, h2⟩
  have b2 := b1.trans (h2.mono b1.size)
  have R2 := R1.below h2
  clear h2 b1 R1 HIO
  go_wp2_with fail
  refine (HSO.out _ R2).mono ?_
  rintro e w3 ⟨rfl, h3⟩
  have b3 := b2.trans (h3.mono b2.size)
  have R3 := R2.below h3
  clear h3 b2 R2 HSO
  go_wp2_with fail
  refine (HIE.out _ R3).mono ?_
  rintro e w4 ⟨vd, rfl, od, h4⟩
  have b4 := b3.trans (h4.mono b3.size)
  have R4 := R3.below h4
  have D4 : RdM w4 vd (effM xs) := Rd.of_own od
  clear od h4 b3 R3 HIE
  go_wp2_with fail
  refine (HSE.out _ R4).mono ?_
  rintro e w5 ⟨ve, rfl, oe, h5⟩
  have b5 := b4.trans (h5.mono b4.size)
  have R5 := R4.below h5
  have D5 := D4.below h5
  have E5 : RdM w5 ve (effM xs) := Rd.of_own oe
  clear oe h5 b4 R4 D4 HSE
  go_wp2_with fail
  refine (HIT.out _ R5).mono ?_
  rintro e w6 ⟨rfl, h6⟩
  have b6 := b5.trans (h6.mono b5.size)
  have R6 := R5.below h6
  have D6 := D5.below h6
  have E6 := E5.below h6
  clear h6 b5 R5 D5 E5 HIT
  go_wp2_with fail
  refine (HST.out _ R6).mono ?_
  rintro e w7 ⟨rfl, h7⟩
  have b7 := b6.trans (h7.mono b6.size)
  have R7 := R6.below h7
  have D7 := D6.below h7
  have E7 := E6.below h7
  clear h7 b6 R6 D6 E6 HST
  go_wp2_with fail
  refine (HQ.out _ _ _ _ D7 E7).mono ?_
  rintro e w8 ⟨rfl, h8⟩
  have b8 := b7.trans (h8.mono b7.size)
  have R8 := R7.below h8
  have D8 := D7.below h8
  clear h8 b7 R7 D7 E7 HQ
  go_wp2_with fail
  refine (HV.out _ R8).mono ?_
  rintro e w9 ⟨rfl, h9⟩
  have b9 := b8.trans (h9.mono b8.size)
  have R9 := R8.below h9
  have D9 := D8.below h9
  clear h9 b8 R8 D8 HV
  obtain ⟨Ad, cd, ed, hnd, hcd, hcell⟩ := D9.open
  subst ed
  clear t
  go_wp2
  go_loopw [18, 93] (fun _ i wr => ∃ (k : Nat), k ≤ (effM xs).length ∧ i = .int .i64 k ∧ Below w9.heap.size w9 wr) (fun _ i _ => (effM xs).length - (intOf i).toNat)
  case atStart => exact ⟨0, by omega, rfl, Below.refl _ _⟩
  case round =>
    obtain ⟨k, hk, rfl, hb⟩ := hrel
    have hbs := hb.size
    by_cases hlt : k < (effM xs).length
    · obtain ⟨b, off, rfl, hbl, hc1, hc2⟩ := hcell k hlt
      have hd1 := (hb.cell (p := ⟨b, off + k * 2, none⟩) hbl).trans hc1
      have hd2 := (hb.cell (p := ⟨b, off + k * 2 + 1, none⟩) hbl).trans hc2
      have i1 : (k : Int) < ((effM xs).length : Int) := by omega
      have ht := HTO.out _ (List.getElem_mem hlt)
      have hph := HH.out (effM xs)[k].1
      rw [ht.2] at hph
      have hne := ht.1
      clear hc1 hc2 hcell ht HTO HEO HA HR HOU
      generalize (effM xs)[k].1 = x1 at *
      generalize (effM xs)[k].2 = x2 at *
      have q1 : (x1.toList == x2.toList) = false := by rw [beq_str]; exact decide_eq_false hne
      have HB := Lib.hid (hb.alloc hbs (.cells #[.string x1, .string x2] 37))
      clear hne hb
      go_wp2_with fail
      refine (hph _).mono ?_
      rintro e wx ⟨rfl, hx⟩
      have hbx := HB.out.trans (hx.mono HB.out.size)
      clear hx hph
      go_wp2
      go_roundw
      case rel => exact ⟨k + 1, by omega, by go_num, hbx⟩
      case measure => simp [intOf] <;> omega
    · obtain rfl : k = (effM xs).length := by omega
      have ba := b9.trans (hb.mono b9.size)
      have Ra := R9.below hb
      have Da := D9.below hb
      clear hcell HTO HH R9 D9 hb b9
      rcases Bool.eq_false_or_eq_true OKB with hk1 | hk1
      · subst hk1
        have hkk := HOK.out
        rw [Bool.and_eq_true] at hkk
        rcases Bool.eq_false_or_eq_true (effOk xs) with hk2 | hk2
        · obtain ⟨f1, f2, f3, f4, f5⟩ := HEO.out hk2 hkk.2
          rw [f1] at HA
          rw [f3] at HR
          rw [HIOE.out] at f2 f5
          have q1 : (((aoB (effM xs) s).extract 0 9).toList == (iob.extract 0 9).toList) = true := by rw [f2]; simp
          have q2 : 9 ≤ (aoB (effM xs) s).size := by omega
          have q3 : 9 ≤ iob.size := by omega
          have q4 : (9 : Int) ≤ ((aoB (effM xs) s).size : Int) := by omega
          have q5 : (9 : Int) ≤ (iob.size : Int) := by omega
          rw [hk2]
          clear f1 f2 f3 hkk hk2 HOK HIOE HOU HEO
          generalize aoB (effM xs) s = ao at *
          go_wp2_with fail
          refine (HA.out _ _ Da).mono ?_
          rintro e wb ⟨rfl, hb⟩
          have bb := ba.trans (hb.mono ba.size)
          have Rb := Ra.below hb
          have Db := Da.below hb
          have gIR := fun x : Ext wb.heap.size wb => HR.out _ x.val (Rb.below x.property) (Db.below x.property)
          clear hb ba Ra Da HA HR Rb Db
          go_wp2
          refine wp_region_ext wb.heap.size (by kernel_rfl) (by kernel_rfl) ?_
          repeat (first | go_big_quiet_step (first | (go_at_call 39; exact ext_call _ (Nat.le_refl _) (gIR _))) | (refine wpQuiet_skip rfl ?_; simp only [Act.put, List.setIfInBounds_toArray, List.set_cons_succ, List.set_cons_zero]))
          refine wpQuiet_nil ?_
          intro wc hw'
          obtain ⟨xw, hxw⟩ := hw'
          have hbc := xw.property
          rw [← hxw] at hbc
          clear hxw xw gIR
          have bc := bb.trans (hbc.mono bb.size)
          clear hbc bb
          go_wp2
          go_ret
          exact ⟨rfl, bc⟩
        · rw [hk2]
          clear HEO HA HR HOU
          go_wp2
          go_ret
          exact ⟨rfl, ba⟩
      · subst hk1
        have hio := HOU.out HOK.out
        rw [HIOE.out] at hio
        subst hio
        clear HEO HA HR HOU
        go_wp2
        go_ret
        exact ⟨rfl, ba⟩

namespace fnEffect
open Go.RowKit Go.PM Go.ChangeShapes Go.WideShapes Go.ChangeAt
open Go.ChangeMaps (open_string shut_string)
set_option maxRecDepth 100000 in
theorem lifted (os : Os) (started : os.Started) (H : Type) (enc : TypeId × Value → H) :
    ReturnsInHanded {} Try.checked os 6 .any (Rows.fnEffectSpec.pre6 enc Try.prog Try.f6 Rows.fnEffectRow.domain false) (Rows.fnEffectSpec.post enc Try.prog Try.f6 false true false false) := by
  refine returnsInHanded_of_change (C := Try.checked) own started (by kernel_rfl) Try.func6
    (ChangeSpec.witness6 (enc := enc) (C := Try.checked) false ⟨#[], #[.slice none 0 0], []⟩ 8 (by kernel_rfl) (by kernel_rfl) (by kernel_rfl) (by kernel_rfl)) ?_
  intro W base args ds gs before hval0 hW hcnd _
  have hval : ∀ (j : Nat) t v, Try.f6.params[j]? = some t → args[j]? = some v → Value.okWide Try.prog W .any base t v := hval0
  have hW' := hW
  obtain ⟨p, q, hA0, hV, rfl, hfz, hnd⟩ := hW
  have hA : DataW.TrodAll enc Try.prog W 0 (fun _ => true) true Try.f6.params.toList args.toList ds p := hA0
  rw [Try.params6] at hA hval
  obtain ⟨v0, vs0, d0, ds0, p0, q0, hargs, rfl, rfl, h0, r0⟩ := trodAll_cons hA
  obtain ⟨rfl, rfl, rfl⟩ := trodAll_nil r0
  obtain rfl : args = #[v0] := by cases args; simp_all
  obtain ⟨rfl, rfl⟩ := trodVars_none hV
  have k0 := h0
  have lt0 : ∀ x ∈ p0, x.block < W.heap.size := by obtain ⟨m, hm⟩ := k0; exact DataW.trod_lt m _ _ _ hm
  obtain ⟨a0, len0, cap0, rfl⟩ := okWide_slice Try.underlying30 (hval 0 30 v0 rfl rfl)
  have hx0 : RdB W W.heap.size (.slice a0 len0 cap0) len0 := by obtain ⟨fuel, hf⟩ := h0; exact open_bytes hf
  clear hA0 hval0
  refine (exEffect W _ len0 hx0).mono fun e W' ⟨he, bel⟩ => ?_
  subst he
  exact ⟨_, rfl, _, _, _, [], _, [], hW', trodAll_mk1 (shut_bool Try.underlying4 _), (trodAll_cons_mk (Below.trod laidOut (by kernel_rfl) (of_decide_eq_true (by kernel_rfl)) k0 bel lt0) trodAll_mk0), rfl, bel.frame _, fun h => by cases h⟩

theorem over : Rows.fnEffectRow.holds Try.pinned (OpenSpec.ofChange Rows.fnEffectSpec) :=
  OpenClaim.holds_of_wide 6 Try.f6 rfl rfl rfl rfl rfl rfl rfl ⟨rfl, rfl, rfl, rfl, rfl⟩ rfl rfl rfl rfl rfl (by kernel_rfl) Try.func6 (by kernel_rfl)
    (of_decide_eq_true (by kernel_rfl)) (by unfold Func.isWrapper; first | (rw [if_pos (by decide +kernel)]; kernel_rfl) | (rw [if_neg (by decide +kernel)]; exact ⟨rfl, rfl⟩))
    (fun os started H enc _ => lifted os started H enc)

/-- The statement. -/
theorem proved : Rows.FnEffectSaid := over
end fnEffect
end Go.Proofs.Ytdhhmphnmllbhaa
