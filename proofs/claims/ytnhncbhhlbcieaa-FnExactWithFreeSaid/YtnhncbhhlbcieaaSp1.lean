import Derived.Test.YtnhncbhhlbcieaaRows
import Derived.Test.YtnhncbhhlbcieaaPm
namespace Go.Proofs.Ytnhncbhhlbcieaa
open Go.RowKit Go.PM Go.Lib

/-- low ≤ n ≤ high -/
def inB (n lo hi : Int) : Bool := decide (lo ≤ n ∧ n ≤ hi)
theorem l1In_c (n lo hi : Int) (w : World) :
    Calls Try.prog 13 #[.int .i64 n, .int .i64 lo, .int .i64 hi] w fun e w' => e = .returned (.bool (inB n lo hi)) ∧ w = w' := by
  by_cases h1 : lo ≤ n
  · by_cases h2 : n ≤ hi
    · go_enter Try.func13, Try.ntmps13
      go_wp2
      go_ret
      simp [inB, h1, h2]
    · go_enter Try.func13, Try.ntmps13
      go_wp2
      go_ret
      simp [inB]; omega
  · go_enter Try.func13, Try.ntmps13
    go_wp2
    go_ret
    simp [inB]; omega

theorem indexByte_drop (l : List UInt8) (c : UInt8) (k : Nat) (hk : k < l.length) : indexByte (l.drop k) c = if l[k] = c then 0 else if indexByte (l.drop (k+1)) c == -1 then -1 else indexByte (l.drop (k+1)) c + 1 := by
  rw [List.drop_eq_getElem_cons hk, indexByte]
  simp only [beq_iff_eq]

set_option maxHeartbeats 400000 in
theorem l13Find_c (s : ByteArray) (c : UInt8) (w : World) (hs : s.size ≤ 9223372036854775807) :
    Calls Try.prog 26 #[.string s, .int .u8 c.toNat] w fun e w' => e = .returned (.int .i64 (indexByte s.data.toList c)) ∧ w = w' := by
  go_enter Try.func26, Try.ntmps26
  go_wp2
  go_loop [5] (fun i => ∃ k : Nat, k ≤ s.size ∧ i = .int .i64 k ∧ Hid (indexByte s.data.toList c = if indexByte (s.data.toList.drop k) c == -1 then -1 else indexByte (s.data.toList.drop k) c + k)) (fun i => s.size - (intOf i).toNat)
  case atStart => exact ⟨0, by omega, rfl, by show _ = _; simp⟩
  case round =>
    obtain ⟨k, hk, rfl, hf⟩ := hrel
    have hll : k < s.size → k < s.data.toList.length := fun h => by rw [size_data]; exact h
    by_cases hlt : k < s.size
    · have hd := indexByte_drop s.data.toList c k (hll hlt)
      have hge := indexByte_ge (s.data.toList.drop (k+1)) c
      have hsk : s.data.toList[k]'(hll hlt) = s[k] := rfl
      rw [hsk] at hd
      have HD := Lib.hid hd
      clear hd hsk hll
      go_wp2
      · have h : ((s[k].toNat : Int) == c.toNat) = true := by assumption
        go_ret
        have h' : s[k] = c := by
          have : s[k].toNat = c.toNat := by simp at h; omega
          exact UInt8.toNat_inj.1 this
        refine ⟨?_, rfl⟩
        have := HD.out
        rw [if_pos h'] at this
        have := hf.out
        rw [‹indexByte (List.drop k s.data.toList) c = 0›] at this
        rw [this]; simp
      · have h : ((s[k].toNat : Int) == c.toNat) = false := by assumption
        go_round
        case rel =>
          refine ⟨k + 1, by omega, by go_num, ?_⟩
          show _ = _
          have h' : ¬ s[k] = c := by
            intro e; rw [e] at h; simp at h
          have h1 := HD.out
          rw [if_neg h'] at h1
          have h2 := hf.out
          rw [h1] at h2
          rw [h2]
          by_cases h0 : indexByte (List.drop (k+1) s.data.toList) c = -1
          · simp [h0]
          · have h3 : ¬ (indexByte (List.drop (k+1) s.data.toList) c + 1 = -1) := by omega
            simp [h0, h3]; omega
        case measure => simp [intOf]; omega
    · have hk' : s.data.toList.drop k = [] := by rw [List.drop_eq_nil_iff, size_data]; omega
      have H := hf.out
      rw [hk'] at H
      have HH := Lib.hid H
      clear hk' H
      go_wp2
      go_ret
      exact ⟨by rw [HH.out]; rfl, rfl⟩


theorem l1Digit_c (s : ByteArray) (w : World) :
    Calls Try.prog 25 #[.string s] w fun e w' => e = .returned (.bool (isD s)) ∧ w = w' := by
  by_cases h1 : s.size = 1
  · obtain ⟨c, rfl⟩ := one_of_size h1
    have HI : Hid (isD ⟨#[c]⟩ = inB (c.toNat : Int) 48 57) := by
      show _ = _
      simp only [isD, inB]; congr 1; simp; omega
    clear h1
    go_enter Try.func25, Try.ntmps25
    go_wp2_with (go_at_call 13; refine (l1In_c _ _ _ _).mono ?_; rintro e w' ⟨rfl, rfl⟩)
    go_ret
    refine ⟨?_, rfl⟩
    rw [HI.out]
    simp only [wrap64_u8]
    rfl
  · have h2 : ((s.size : Int) == 1) = false := by simp; omega
    have HI : Hid (isD s = false) := by
      show _ = _
      by_cases h : isD s = true
      · exact absurd (isD_size h) h1
      · simpa using h
    clear h1
    go_enter Try.func25, Try.ntmps25
    go_wp2
    go_ret
    exact ⟨by rw [HI.out]; rfl, rfl⟩

end Go.Proofs.Ytnhncbhhlbcieaa
