import Derived.Test.YtdhhmphnmllbhaaSp1
import Derived.Test.YtdhhmphnmllbhaaM2
import Derived.Test.YtdhhmphnmllbhaaSource
import Derived.BigQuiet
namespace Go.Proofs.Ytdhhmphnmllbhaa
open Go.RowKit Go.PM Go.Lib

theorem l2Place_c (s : ByteArray) (w : World) :
    Calls Try.prog 100 #[.string s] w fun e w' => e = .returned (.bool (isC s)) ∧ w = w' := by
  by_cases h1 : s.size = 1
  · obtain ⟨c, rfl⟩ := one_of_size h1
    have hm := indexByte_mem cellsL c
    have HI : Hid (isC ⟨#[c]⟩ = decide (0 ≤ indexByte cellsL c)) := by show _ = _; simp [isC, hm]
    clear h1 hm
    go_enter Try.func100, Try.ntmps100
    go_wp2_with (go_at_call 84; refine (l13Find_c _ c _ (by decide)).mono ?_; rintro e w' ⟨rfl, rfl⟩)
    go_ret
    exact ⟨by rw [HI.out]; rfl, rfl⟩
  · have h2 : ((s.size : Int) == 1) = false := by simp; omega
    have HI : Hid (isC s = false) := by
      show _ = _
      by_cases h : isC s = true
      · exact absurd (isC_size h) h1
      · simpa using h
    clear h1
    go_enter Try.func100, Try.ntmps100
    go_wp2
    go_ret
    exact ⟨by rw [HI.out]; rfl, rfl⟩
theorem inB_isV (c : UInt8) : isV c = (inB (c.toNat : Int) 48 57 || (inB (c.toNat : Int) 97 122 || inB (c.toNat : Int) 65 90)) := by
  unfold isV inB
  congr 1
  · congr 1; simp; omega
  · congr 1 <;> (congr 1; simp; omega)
set_option maxHeartbeats 800000 in
theorem spStateValid_c (s : ByteArray) (w : World) (hs : s.size ≤ 9223372036854775807) :
    Calls Try.prog 73 #[.string s] w fun e w' => e = .returned (.bool (stateV s)) ∧ w = w' := by
  have HV : Hid (stateV s = (s.data.toList.all isV && decide (s.size = 11))) := rfl
  go_enter Try.func73, Try.ntmps73
  go_wp2
  go_loop [3, 6] (fun _ i => ∃ k : Nat, k ≤ s.size ∧ i = .int .i64 k ∧ Hid (∀ j (hj : j < s.data.toList.length), j < k → isV s.data.toList[j] = true)) (fun _ i => s.size - (RowKit.intOf i).toNat)
  case atStart => exact ⟨0, by omega, rfl, fun j _ hj => absurd hj (Nat.not_lt_zero j)⟩
  case round =>
    obtain ⟨k, hk, rfl, hf⟩ := hrel
    by_cases hlt : k < s.size
    · have hlk : k < s.data.toList.length := by rw [size_data]; exact hlt
      have hget : s.data.toList[k] = s[k] := rfl
      have hib := inB_isV s[k]
      have HF : Hid (isV s[k] = false → stateV s = false) := by
        intro h
        rw [HV.out]
        have : s.data.toList.all isV = false := by
          rw [List.all_eq_false]
          exact ⟨s.data.toList[k], List.getElem_mem hlk, by rw [hget, h]; decide⟩
        rw [this, Bool.false_and]
      have HT : Hid (isV s[k] = true → ∀ j (hj : j < s.data.toList.length), j < k + 1 → isV s.data.toList[j] = true) := by
        intro h j hj hjk
        rcases Nat.lt_succ_iff_lt_or_eq.1 hjk with h1 | h1
        · exact hf.out j hj h1
        · subst h1; rw [hget]; exact h
      have HIB := Lib.hid hib
      have hu8 := wrap64_u8 s[k]
      clear hib hget
      rcases Bool.eq_false_or_eq_true (inB (s[k].toNat : Int) 48 57) with b1 | b1 <;> rcases Bool.eq_false_or_eq_true (inB (s[k].toNat : Int) 97 122) with b2 | b2 <;> rcases Bool.eq_false_or_eq_true (inB (s[k].toNat : Int) 65 90) with b3 | b3
      all_goals
        go_wp2_with (go_at_call 101; refine (l1In_c _ _ _ _).mono ?_; rintro e w' ⟨rfl, rfl⟩; simp only [hu8, b1, b2, b3])
        first
        | (go_round
           case rel => exact ⟨k + 1, by omega, by go_num, HT.out (by rw [HIB.out, b1, b2, b3]; rfl)⟩
           case measure => simp [RowKit.intOf]; omega)
        | (go_ret
           exact ⟨by rw [HF.out (by rw [HIB.out, b1, b2, b3]; rfl)]; rfl, rfl⟩)
    · have HE : Hid (stateV s = ((s.size : Int) == 11)) := by
        show _ = _
        rw [HV.out]
        have : s.data.toList.all isV = true := by
          rw [List.all_eq_true]
          intro x hx
          obtain ⟨j, hj, rfl⟩ := List.getElem_of_mem hx
          exact hf.out j hj (by rw [size_data] at hj; omega)
        rw [this, Bool.true_and]
        rw [Bool.eq_iff_iff, decide_eq_true_eq, beq_iff_eq]; omega
      go_wp2
      go_ret
      exact ⟨by rw [HE.out]; rfl, rfl⟩
theorem l2Value_c (f : Nat → UInt8) (a : ByteArray) (h : okC a = true) (w : World) :
    Calls Try.prog 111 #[.string (stB f), .string a] w fun e w' => e = .returned (.string ⟨#[rdS f a]⟩) ∧ w = w' := by
  have hsz : (stB f).size = 11 := rfl
  rcases Bool.eq_false_or_eq_true (isC a) with hc | hc
  · have hd : isD a = false := by
      rcases Bool.eq_false_or_eq_true (isD a) with hd | hd
      · rw [isD_notC hd] at hc; cases hc
      · exact hd
    obtain ⟨c, rfl⟩ := one_of_size (isC_size hc)
    have h2 : c ∈ cellsL := by simpa [isC] using hc
    have h4 := (cidx_one h2).1
    have hlt := cidx_lt hc
    have hex := stB_cell f _ hlt
    have hr := rdS_cell (f := f) hc
    have hfi : ∀ W, Calls Try.prog 84 #[.string ⟨#[97, 98, 99, 100, 101, 102, 65, 66, 67, 116, 117]⟩, .int .u8 c.toNat] W fun e w' => e = .returned (.int .i64 (cidx ⟨#[c]⟩ : Nat)) ∧ W = w' := fun W => by
      have := l13Find_c ⟨#[97, 98, 99, 100, 101, 102, 65, 66, 67, 116, 117]⟩ c W (by decide)
      rw [show indexByte (ByteArray.mk #[97, 98, 99, 100, 101, 102, 65, 66, 67, 116, 117]).data.toList c = (cidx ⟨#[c]⟩ : Nat) from h4] at this
      exact this
    have HR := Lib.hid hr
    clear h h2 h4 hc hr
    generalize cidx ⟨#[c]⟩ = k at *
    generalize stB f = t at *
    go_enter Try.func111, Try.ntmps111
    go_wp2_with (first | (go_at_call 79; refine (l1Digit_c _ _).mono ?_; rintro e w' ⟨rfl, rfl⟩) | (go_at_call 84; refine (hfi _).mono ?_; rintro e w' ⟨rfl, rfl⟩))
    go_ret
    exact ⟨by rw [HR.out]; rfl, rfl⟩
  · have hd : isD a = true := by unfold okC at h; rw [hc, Bool.false_or] at h; exact h
    have hr := rdS_digit (f := f) hc
    have ho := fc_one (isD_size hd)
    have HR : Hid ((⟨#[rdS f a]⟩ : ByteArray) = a) := by show _ = _; rw [hr]; exact ho.symm
    clear hr ho h hc
    generalize stB f = t at *
    go_enter Try.func111, Try.ntmps111
    go_wp2_with (go_at_call 79; refine (l1Digit_c _ _).mono ?_; rintro e w' ⟨rfl, rfl⟩)
    go_ret
    exact ⟨by rw [HR.out]; rfl, rfl⟩
set_option maxHeartbeats 800000 in
theorem l2Put_c (f : Nat → UInt8) (a : ByteArray) (h : isC a = true) (c : UInt8) (w : World) :
    Calls Try.prog 112 #[.string (stB f), .string a, .string ⟨#[c]⟩] w fun e w' => e = .returned (.string (stB (updS f (cidx a) c))) ∧ Below w.heap.size w w' := by
  obtain ⟨d, rfl⟩ := one_of_size (isC_size h)
  have h2 : d ∈ cellsL := by simpa [isC] using h
  have h4 := (cidx_one h2).1
  have hlt := cidx_lt h
  have hp := stB_put f _ hlt c
  have hfi : ∀ W, Calls Try.prog 84 #[.string ⟨#[97, 98, 99, 100, 101, 102, 65, 66, 67, 116, 117]⟩, .int .u8 d.toNat] W fun e w' => e = .returned (.int .i64 (cidx ⟨#[d]⟩ : Nat)) ∧ W = w' := fun W => by
    have := l13Find_c ⟨#[97, 98, 99, 100, 101, 102, 65, 66, 67, 116, 117]⟩ d W (by decide)
    rw [show indexByte (ByteArray.mk #[97, 98, 99, 100, 101, 102, 65, 66, 67, 116, 117]).data.toList d = (cidx ⟨#[d]⟩ : Nat) from h4] at this
    exact this
  have HP := Lib.hid hp
  clear h h2 h4 hp
  have hsz : (stB f).size = 11 := rfl
  have hc1 : (⟨#[c]⟩ : ByteArray).size = 1 := rfl
  generalize updS f (cidx ⟨#[d]⟩) c = g at *
  generalize cidx ⟨#[d]⟩ = k at *
  generalize stB f = t at *
  generalize (⟨#[c]⟩ : ByteArray) = cb at *
  have hx1 : (t.extract 0 k).size ≤ 11 := by rw [ByteArray.size_extract]; omega
  have hx2 : (t.extract (k + 1) 11).size ≤ 11 := by rw [ByteArray.size_extract]; omega
  have i0 : (0 : Int) ≤ (k : Int) := by omega
  have i1 : (k : Int) < 11 := by omega
  have i2 : IntKind.i64.wrap ((k : Int) + 1) = (k : Int) + 1 := IntWalk.i64_in _ (by omega)
  have i3 : (0 : Int) ≤ (k : Int) + 1 := by omega
  have i4 : (k : Int) + 1 ≤ 11 := by omega
  have i5 : ((k : Int) + 1).toNat = k + 1 := by omega
  go_enter Try.func112, Try.ntmps112
  go_wp2_with (go_at_call 84; refine (hfi _).mono ?_; rintro e w' ⟨rfl, rfl⟩)
  refine wp_region_ext w.heap.size (by kernel_rfl) (by kernel_rfl) ?_
  repeat (go_big_quiet_step (fail))
  refine wpQuiet_nil ?_
  intro w2 hw'
  obtain ⟨xw, hxw⟩ := hw'
  have hb2 := xw.property
  rw [← hxw] at hb2
  clear hxw xw
  go_wp2
  go_ret
  exact ⟨by rw [← HP.out]; rfl, hb2⟩
end Go.Proofs.Ytdhhmphnmllbhaa
