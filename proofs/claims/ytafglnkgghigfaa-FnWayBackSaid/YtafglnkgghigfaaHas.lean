import Derived.Test.YtafglnkgghigfaaReaders
import Derived.Test.YtafglnkgghigfaaDraw3
import Derived.Test.YtafglnkgghigfaaOpen
namespace Go.PM
open Go.RowKit
/-- one of a text's letters is the given text -/
def pmH (s c : ByteArray) : Bool := (List.range s.size).any fun i => decide (s.extract i (i + 1) = c)
def pmK (s c : ByteArray) (k : Nat) : Bool := (List.range k).any fun i => decide (s.extract i (i + 1) = c)
theorem pmK_succ (s c : ByteArray) (k : Nat) : pmK s c (k + 1) = (pmK s c k || decide (s.extract k (k + 1) = c)) := by
  simp [pmK, List.range_succ]
theorem pmK_yes {s c : ByteArray} (k : Nat) (hk : k < s.size) (h : s.extract k (k + 1) = c) : pmH s c = true := by
  rw [pmH, List.any_eq_true]
  exact ⟨k, by simpa using hk, decide_eq_true h⟩
theorem extract_at (s : ByteArray) (i : Nat) (h : i < s.size) : s.extract i (i + 1) = ⟨#[s[i]]⟩ := by
  apply ByteArray.ext
  apply Array.ext
  · simp only [ByteArray.data_extract, Array.size_extract]
    have : s.data.size = s.size := rfl
    simp; omega
  · intro j h1 h2
    have hj : j = 0 := by simpa using h2
    subst hj
    simp
    rfl
theorem pmH_one (s : ByteArray) (c : UInt8) : pmH s ⟨#[c]⟩ = decide (c ∈ s.data.toList) := by
  rw [pmH, Bool.eq_iff_iff, List.any_eq_true, decide_eq_true_eq]
  constructor
  · rintro ⟨i, hi, h⟩
    have hi' : i < s.size := by simpa using hi
    have h' := of_decide_eq_true h
    rw [extract_at s i hi'] at h'
    have : s[i] = c := by simpa using h'
    rw [← this]
    exact List.getElem_mem (l := s.data.toList) (n := i) (by simpa using hi')
  · intro h
    obtain ⟨i, hi, e⟩ := List.getElem_of_mem h
    have hi' : i < s.size := by simpa using hi
    refine ⟨i, by simpa using hi', decide_eq_true ?_⟩
    rw [extract_at s i hi', ← e]
    rfl
theorem place_inj : ∀ p < 9, ∀ q < 9, placesL.getD q 0 = placesL.getD p 0 → q = p := by decide +kernel
theorem nm_byte (p : Nat) (hp : p < 9) : nm p = ⟨#[placesL.getD p 0]⟩ := by
  match p, hp with
  | 0, _ | 1, _ | 2, _ | 3, _ | 4, _ | 5, _ | 6, _ | 7, _ | 8, _ => decide +kernel
theorem pmH_names (h : Nat → Bool) (p : Nat) (hp : p < 9) : pmH (namesW h) (nm p) = h p := by
  rw [nm_byte p hp, pmH_one, Bool.eq_iff_iff, decide_eq_true_eq]
  unfold namesW namesL
  simp only [List.mem_map, List.mem_filter, List.mem_range]
  constructor
  · rintro ⟨q, ⟨hq, hh⟩, e⟩
    rw [place_inj p hp q hq e] at hh; exact hh
  · intro hh; exact ⟨p, ⟨hp, hh⟩, rfl⟩
theorem srcM_isS {xs : List Mv} (h : MV xs) {a : ByteArray} (ha : isP a = true) : isS (srcM xs a) = true := by
  unfold srcM
  cases hf : xs.find? (fun m => decide (m.1 = a)) with
  | none => show isS a = true; unfold isS; rw [ha]; rfl
  | some m =>
    have hm := h.1 m (List.mem_of_find?_eq_some hf)
    unfold mok at hm; rw [Bool.and_eq_true] at hm
    exact hm.2
theorem nm_of_isP {a : ByteArray} (h : isP a = true) : ∃ p, p < 9 ∧ a = nm p := by
  obtain ⟨c, rfl⟩ := one_of_size (isP_size h)
  have h2 : c ∈ placesL := by simpa [isP] using h
  simp only [placesL, List.mem_cons, List.not_mem_nil, or_false] at h2
  rcases h2 with rfl | rfl | rfl | rfl | rfl | rfl | rfl | rfl | rfl
  · exact ⟨0, by decide, by decide +kernel⟩
  · exact ⟨1, by decide, by decide +kernel⟩
  · exact ⟨2, by decide, by decide +kernel⟩
  · exact ⟨3, by decide, by decide +kernel⟩
  · exact ⟨4, by decide, by decide +kernel⟩
  · exact ⟨5, by decide, by decide +kernel⟩
  · exact ⟨6, by decide, by decide +kernel⟩
  · exact ⟨7, by decide, by decide +kernel⟩
  · exact ⟨8, by decide, by decide +kernel⟩
end Go.PM
namespace Go.Proofs.Ytafglnkgghigfaa
open Go.RowKit Go.PM
theorem pmH_rdrs {xs : List Mv} (h : MV xs) (a : ByteArray) (p : Nat) (hp : p < 9) : pmH (rdrs xs a) (nm p) = (decide (nm p ≠ a) && decide (srcM xs (nm p) = a)) := by
  rw [rdrs, ← rsH_rdH h, pmH_names _ p hp]; rfl
theorem pmH_source {xs : List Mv} (h : MV xs) {a : ByteArray} (ha : isP a = true) (hne : ¬ srcM xs a = a) : pmH (rdrs xs (srcM xs a)) a = true := by
  obtain ⟨p, hp, rfl⟩ := nm_of_isP ha
  rw [pmH_rdrs h _ p hp]
  have h1 : nm p ≠ srcM xs (nm p) := fun e => hne e.symm
  simp [h1]
theorem rdrs_size (xs : List Mv) (a : ByteArray) : (rdrs xs a).size ≤ 9 := namesL_size _ 9

set_option maxHeartbeats 800000 in
theorem pmHas_c (s c : ByteArray) (w : World) (hs : s.size ≤ 1000) :
    Calls Try.prog 31 #[.string s, .string c] w fun e w' => e = .returned (.bool (pmH s c)) ∧ Below w.heap.size w w' := by
  have HF : Hid (pmK s c s.size = pmH s c) := rfl
  go_enter Try.func31, Try.ntmps31
  go_wp2
  go_loopw [5, 8] (fun _ i wr => ∃ (k : Nat), k ≤ s.size ∧ i = .int .i64 k ∧ Hid (pmK s c k = false) ∧ Below w.heap.size w wr) (fun _ i _ => s.size - (intOf i).toNat)
  case atStart => exact ⟨0, by omega, rfl, rfl, Below.refl _ _⟩
  case round =>
    obtain ⟨k, hk, rfl, hp, hb⟩ := hrel
    have hbs := hb.size
    by_cases hlt : k < s.size
    · have i1 : (k : Int) < (s.size : Int) := by omega
      have HS := Lib.hid (pmK_succ s c k)
      have HY := Lib.hid (fun h => pmK_yes (s := s) (c := c) k hlt h)
      have hb2 := beq_str (s.extract k (k + 1)) c
      by_cases he : s.extract k (k + 1) = c
      · have H1 := Lib.hid (HY.out he)
        have q : ((s.extract k (k + 1)).toList == c.toList) = true := by rw [hb2, decide_eq_true he]
        clear hb2 he
        go_wp2
        go_ret
        exact ⟨by rw [H1.out]; rfl, hb⟩
      · have H1 : Hid (pmK s c (k + 1) = false) := by show _ = _; rw [HS.out, hp.out, decide_eq_false he]; rfl
        have q : ((s.extract k (k + 1)).toList == c.toList) = false := by rw [hb2, decide_eq_false he]
        clear hb2 he
        go_wp2
        go_roundw
        case rel => exact ⟨k + 1, by omega, by go_num, H1, hb⟩
        case measure => simp [intOf] <;> omega
    · have hk' : k = s.size := by omega
      have H1 : Hid (pmH s c = false) := by show _ = _; rw [← HF.out, ← hk']; exact hp.out
      clear hk'
      go_wp2
      go_ret
      exact ⟨by rw [H1.out]; rfl, hb⟩
open Go.ChangeShapes Go.WideShapes Go.Deep in
set_option maxRecDepth 100000 in
theorem open_bytes {H : Type} {enc : TypeId × Value → H} {W : World} {base fuel : Nat} {spare : Nat → Bool} {held : Bool} {a : Option Addr} {n c : Nat} {x : DataW H × List MemPlace}
    (h : DataW.trod enc Try.prog W base spare held fuel 22 [.slice a n c] = some x) : RdB W W.heap.size (.slice a n c) n := by
  rcases open_slice Try.underlying22 h with ⟨hcs, _⟩ | ⟨ad, len, cap, m, k, D, Pl, hcs, hb, hl, hm, hmm, hx, hi⟩
  · simp at hcs
    obtain ⟨rfl, rfl, rfl⟩ := hcs
    exact ⟨none, 0, rfl, by omega, by omega, fun k hk => absurd hk (Nat.not_lt_zero k)⟩
  · simp at hcs
    obtain ⟨rfl, rfl, rfl⟩ := hcs
    have hC : Try.prog.cellsOf 5 = 1 := by kernel_rfl
    have hml : n ≤ m := by rw [hmm]; split <;> omega
    have hM : maxLen = 9223372036854775807 := rfl
    have hcell : ∀ i, i < n → ∃ kk, W.cell? (ad.add i) = some (.int .u8 kk) ∧ 0 ≤ kk ∧ kk ≤ 255 := fun i hin => by
      obtain ⟨cs', hc', ht⟩ := hi i (by omega)
      rw [hC] at hc'
      obtain ⟨kk, hk, _, hwf⟩ := DataW.trod_int Try.underlying5 ht
      subst hk
      obtain ⟨_, hcl, hat⟩ := World.cells?_some hc'
      have h1 := hat 0 (by omega)
      refine ⟨kk, by simpa [Addr.add] using h1, ?_⟩
      simpa [Lit.wf, IntKind.min, IntKind.max, IntKind.signed, IntKind.bits] using hwf
    clear hi hx h
    refine ⟨some ad, c, rfl, by omega, by omega, fun i hin => ?_⟩
    obtain ⟨b, off, spot⟩ := ad
    have hs : spot = none := by
      obtain ⟨_, h0, _⟩ := hcell 0 (by omega)
      have := World.cell?_spot h0
      simpa [Addr.add] using this
    subst hs
    obtain ⟨kk, h1, hw1, hw2⟩ := hcell i hin
    have hadd : (Addr.mk b off none).add i = ⟨b, off + i, none⟩ := by
      unfold Addr.add; split
      · next h => subst h; rfl
      · rfl
    rw [hadd] at h1
    have hb : b < W.heap.size := by
      rcases Nat.lt_or_ge b W.heap.size with hlt | hge
      · exact hlt
      · simp [World.cell?, Array.getElem?_eq_none hge] at h1
    exact ⟨b, off, kk, rfl, hb, hb, h1, hw1, by omega⟩
end Go.Proofs.Ytafglnkgghigfaa
