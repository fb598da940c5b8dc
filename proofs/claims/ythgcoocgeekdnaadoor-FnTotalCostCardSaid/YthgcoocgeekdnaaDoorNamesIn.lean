import Derived.Test.YthgcoocgeekdnaaDoorIm2
namespace Go.PM
open Go.RowKit
/-- those of the first k names for which a condition holds, in order -/
def pickL (names : List UInt8) (h : Nat → Bool) (k : Nat) : List UInt8 := ((List.range k).filter h).map (names.getD · 0)
theorem pickL_succ (names : List UInt8) (h : Nat → Bool) (k : Nat) : pickL names h (k + 1) = if h k then pickL names h k ++ [names.getD k 0] else pickL names h k := by
  rw [pickL, List.range_succ]
  cases hk : h k <;> simp [pickL, hk]
theorem pickL_len (names : List UInt8) (h : Nat → Bool) (k : Nat) : (pickL names h k).length ≤ k := by
  simp only [pickL, List.length_map]
  have := List.length_filter_le h (List.range k)
  simpa using this
theorem pickL_congr {names : List UInt8} {h g : Nat → Bool} {k : Nat} (e : ∀ p, p < k → h p = g p) : pickL names h k = pickL names g k := by
  have : (List.range k).filter h = (List.range k).filter g := List.filter_congr fun p hp => e p (by simpa using hp)
  rw [pickL, pickL, this]
def inTx (names text : List UInt8) (p : Nat) : Bool := decide (names.getD p 0 ∈ text)
def pickB (names : List UInt8) (h : Nat → Bool) (k : Nat) : ByteArray := ⟨(pickL names h k).toArray⟩
theorem pickB_succ (names : List UInt8) (h : Nat → Bool) (k : Nat) : pickB names h (k + 1) = if h k then pickB names h k ++ ⟨#[names.getD k 0]⟩ else pickB names h k := by
  rw [pickB, pickL_succ]
  cases hk : h k
  · rfl
  · apply ByteArray.ext
    rw [if_pos rfl, if_pos rfl, ByteArray.data_append, pickB]
    simp
theorem pickB_size (names : List UInt8) (h : Nat → Bool) (k : Nat) : (pickB names h k).size ≤ k := by
  have := pickL_len names h k
  have e : (pickB names h k).size = (pickL names h k).length := by simp [pickB, ByteArray.size]
  omega
theorem extract_one (s : ByteArray) (k : Nat) (hk : k < s.size) : s.extract k (k + 1) = ⟨#[s.data.toList.getD k 0]⟩ := by
  obtain ⟨⟨l⟩⟩ := s
  apply ByteArray.ext
  rw [ByteArray.data_extract]
  apply Array.ext'
  have hl : k < l.length := hk
  simp only [List.extract_toArray, List.extract_eq_take_drop]
  rw [show k + 1 - k = 1 by omega, List.drop_eq_getElem_cons hl, List.take_succ_cons, List.take_zero, List.getD_eq_getElem?_getD, List.getElem?_eq_getElem hl]
  rfl
end Go.PM
namespace Go.Proofs.YthgcoocgeekdnaaDoor
open Go.RowKit Go.PM

set_option maxRecDepth 100000 in
set_option maxHeartbeats 1000000 in
theorem namesIn_c (names text : ByteArray) (hn : names.size ≤ 100) (w : World) :
    Calls Tryd.prog 70 #[.string names, .string text] w fun e w' => e = .returned (.string (pickB names.data.toList (inTx names.data.toList text.data.toList) names.size)) ∧ w = w' := by
  have HX := Lib.hid (fun k hk => extract_one names k hk)
  have HS := Lib.hid (fun k => pickB_succ names.data.toList (inTx names.data.toList text.data.toList) k)
  have HZ := Lib.hid (fun k => pickB_size names.data.toList (inTx names.data.toList text.data.toList) k)
  have hcon : ∀ k (W : World), Calls Tryd.prog 66 #[.string text, .string ⟨#[names.data.toList.getD k 0]⟩] W fun e w' => e = .returned (.bool (inTx names.data.toList text.data.toList k)) ∧ W = w' := fun k W =>
    (Tryd.strings_Contains_one text (names.data.toList.getD k 0) W).mono fun _ _ ⟨e1, e2⟩ => ⟨by
      rw [e1]; congr 2; simp only [inTx, indexByte_mem], e2.symm⟩
  have HC := Lib.hid hcon
  clear hcon
  have h0 : Hid (pickB names.data.toList (inTx names.data.toList text.data.toList) 0 = ⟨#[]⟩) := rfl
  generalize inTx names.data.toList text.data.toList = h at *
  generalize names.data.toList = nl at *
  go_enter Tryd.func70, Tryd.ntmps70
  go_wp2
  go_loop [5, 6, 9] (fun o _ i => ∃ (k : Nat), k ≤ names.size ∧ i = .int .i64 k ∧ o = .string (pickB nl h k)) (fun _ _ i => names.size - (intOf i).toNat)
  case atStart => exact ⟨0, by omega, rfl, by rw [h0.out]⟩
  case round =>
    obtain ⟨k, hk, rfl, rfl⟩ := hrel
    by_cases hlt : k < names.size
    · have hx := HX.out k hlt
      have hs := Lib.hid (HS.out k)
      have hz := HZ.out k
      have hc := HC.out k
      have hone : (⟨#[nl.getD k 0]⟩ : ByteArray).size = 1 := rfl
      generalize (⟨#[nl.getD k 0]⟩ : ByteArray) = q at *
      generalize pickB nl h k = t at *
      rcases Bool.eq_false_or_eq_true (h k) with hh | hh
      · go_wp2_with (go_at_call 66; refine (hc _).mono ?_; rintro e w' ⟨rfl, rfl⟩)
        go_round
        case rel => exact ⟨k + 1, by omega, by go_num, by rw [hs.out, if_pos hh]⟩
        case measure => simp [intOf]; omega
      · go_wp2_with (go_at_call 66; refine (hc _).mono ?_; rintro e w' ⟨rfl, rfl⟩)
        go_round
        case rel => exact ⟨k + 1, by omega, by go_num, by rw [hs.out, hh]; rfl⟩
        case measure => simp [intOf]; omega
    · have hk' : k = names.size := by omega
      subst hk'
      go_wp2
      go_ret
      exact ⟨rfl, rfl⟩
end Go.Proofs.YthgcoocgeekdnaaDoor
