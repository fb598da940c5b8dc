import Derived.Test.YtplapaojgcloaaaDoorSp1
import Derived.Test.YtplapaojgcloaaaDoorM2
import Derived.Test.YtplapaojgcloaaaDoorSource
import Derived.BigQuiet
namespace Go.Proofs.YtplapaojgcloaaaDoor
open Go.RowKit Go.PM Go.Lib

theorem l2Place_c (s : ByteArray) (w : World) :
    Calls Tryd.prog 99 #[.string s] w fun e w' => e = .returned (.bool (isC s)) ∧ w = w' := by
  by_cases h1 : s.size = 1
  · obtain ⟨c, rfl⟩ := one_of_size h1
    have hm := indexByte_mem cellsL c
    have HI : Hid (isC ⟨#[c]⟩ = decide (0 ≤ indexByte cellsL c)) := by show _ = _; simp [isC, hm]
    clear h1 hm
    go_enter Tryd.func99, Tryd.ntmps99
    go_wp2_with (go_at_call 56; refine (l13Find_c _ c _ (by decide)).mono ?_; rintro e w' ⟨rfl, rfl⟩)
    go_ret
    exact ⟨by rw [HI.out]; rfl, rfl⟩
  · have h2 : ((s.size : Int) == 1) = false := by simp; omega
    have HI : Hid (isC s = false) := by
      show _ = _
      by_cases h : isC s = true
      · exact absurd (isC_size h) h1
      · simpa using h
    clear h1
    go_enter Tryd.func99, Tryd.ntmps99
    go_wp2
    go_ret
    exact ⟨by rw [HI.out]; rfl, rfl⟩
theorem inB_isV (c : UInt8) : isV c = (inB (c.toNat : Int) 48 57 || (inB (c.toNat : Int) 97 122 || inB (c.toNat : Int) 65 90)) := by
  unfold isV inB
  congr 1
  · congr 1; simp; omega
  · congr 1 <;> (congr 1; simp; omega)
theorem l2Value_c (f : Nat → UInt8) (a : ByteArray) (h : okC a = true) (w : World) :
    Calls Tryd.prog 70 #[.string (stB f), .string a] w fun e w' => e = .returned (.string ⟨#[rdS f a]⟩) ∧ w = w' := by
  have hsz : (stB f).size = 11 := rfl
  rcases Bool.eq_false_or_eq_true (isC a) with hc | hc
  · have hd : isD a = false := by
      rcases Bool.eq_false_or_eq_true (isD a) with hd | hd
      · rw [isD_notC hd] at hc; cases hc
      · exact hd
    obtain ⟨c, rfl⟩ := one_of_size (isC_size hc)
    have h2 : c ∈ cellsL := by simpa [isC] using hc
    have h4 := (cidx_one h2).1
    have hlt := cidx_lt hc
    have hex := stB_cell f _ hlt
    have hr := rdS_cell (f := f) hc
    have hfi : ∀ W, Calls Tryd.prog 56 #[.string ⟨#[97, 98, 99, 100, 101, 102, 65, 66, 67, 116, 117]⟩, .int .u8 c.toNat] W fun e w' => e = .returned (.int .i64 (cidx ⟨#[c]⟩ : Nat)) ∧ W = w' := fun W => by
      have := l13Find_c ⟨#[97, 98, 99, 100, 101, 102, 65, 66, 67, 116, 117]⟩ c W (by decide)
      rw [show indexByte (ByteArray.mk #[97, 98, 99, 100, 101, 102, 65, 66, 67, 116, 117]).data.toList c = (cidx ⟨#[c]⟩ : Nat) from h4] at this
      exact this
    have HR := Lib.hid hr
    clear h h2 h4 hc hr
    generalize cidx ⟨#[c]⟩ = k at *
    generalize stB f = t at *
    go_enter Tryd.func70, Tryd.ntmps70
    go_wp2_with (first | (go_at_call 100; refine (l1Digit_c _ _).mono ?_; rintro e w' ⟨rfl, rfl⟩) | (go_at_call 56; refine (hfi _).mono ?_; rintro e w' ⟨rfl, rfl⟩))
    go_ret
    exact ⟨by rw [HR.out]; rfl, rfl⟩
  · have hd : isD a = true := by unfold okC at h; rw [hc, Bool.false_or] at h; exact h
    have hr := rdS_digit (f := f) hc
    have ho := fc_one (isD_size hd)
    have HR : Hid ((⟨#[rdS f a]⟩ : ByteArray) = a) := by show _ = _; rw [hr]; exact ho.symm
    clear hr ho h hc
    generalize stB f = t at *
    go_enter Tryd.func70, Tryd.ntmps70
    go_wp2_with (go_at_call 100; refine (l1Digit_c _ _).mono ?_; rintro e w' ⟨rfl, rfl⟩)
    go_ret
    exact ⟨by rw [HR.out]; rfl, rfl⟩
set_option maxHeartbeats 800000 in
theorem l2Put_c (f : Nat → UInt8) (a : ByteArray) (h : isC a = true) (c : UInt8) (w : World) :
    Calls Tryd.prog 135 #[.string (stB f), .string a, .string ⟨#[c]⟩] w fun e w' => e = .returned (.string (stB (updS f (cidx a) c))) ∧ Below w.heap.size w w' := by
  obtain ⟨d, rfl⟩ := one_of_size (isC_size h)
  have h2 : d ∈ cellsL := by simpa [isC] using h
  have h4 := (cidx_one h2).1
  have hlt := cidx_lt h
  have hp := stB_put f _ hlt c
  have hfi : ∀ W, Calls Tryd.prog 56 #[.string ⟨#[97, 98, 99, 100, 101, 102, 65, 66, 67, 116, 117]⟩, .int .u8 d.toNat] W fun e w' => e = .returned (.int .i64 (cidx ⟨#[d]⟩ : Nat)) ∧ W = w' := fun W => by
    have := l13Find_c ⟨#[97, 98, 99, 100, 101, 102, 65, 66, 67, 116, 117]⟩ d W (by decide)
    rw [show indexByte (ByteArray.mk #[97, 98, 99, 100, 101, 102, 65, 66, 67, 116, 117]).data.toList d = (cidx ⟨#[d]⟩ : Nat) from h4] at this
    exact this
  have HP := Lib.hid hp
  clear h h2 h4 hp
  have hsz : (stB f).size = 11 := rfl
  have hc1 : (⟨#[c]⟩ : ByteArray).size = 1 := rfl
  generalize updS f (cidx ⟨#[d]⟩) c = g at *
  generalize cidx ⟨#[d]⟩ = k at *
  generalize stB f = t at *
  generalize (⟨#[c]⟩ : ByteArray) = cb at *
  have hx1 : (t.extract 0 k).size ≤ 11 := by rw [ByteArray.size_extract]; omega
  have hx2 : (t.extract (k + 1) 11).size ≤ 11 := by rw [ByteArray.size_extract]; omega
  have i0 : (0 : Int) ≤ (k : Int) := by omega
  have i1 : (k : Int) < 11 := by omega
  have i2 : IntKind.i64.wrap ((k : Int) + 1) = (k : Int) + 1 := IntWalk.i64_in _ (by omega)
  have i3 : (0 : Int) ≤ (k : Int) + 1 := by omega
  have i4 : (k : Int) + 1 ≤ 11 := by omega
  have i5 : ((k : Int) + 1).toNat = k + 1 := by omega
  go_enter Tryd.func135, Tryd.ntmps135
  go_wp2_with (go_at_call 56; refine (hfi _).mono ?_; rintro e w' ⟨rfl, rfl⟩)
  refine wp_region_ext w.heap.size (by kernel_rfl) (by kernel_rfl) ?_
  repeat (go_big_quiet_step (fail))
  refine wpQuiet_nil ?_
  intro w2 hw'
  obtain ⟨xw, hxw⟩ := hw'
  have hb2 := xw.property
  rw [← hxw] at hb2
  clear hxw xw
  go_wp2
  go_ret
  exact ⟨by rw [← HP.out]; rfl, hb2⟩
end Go.Proofs.YtplapaojgcloaaaDoor
