import Derived.Test.YtfedloljhocpgaaGreatDoorIm1
import Derived.Test.YtfedloljhocpgaaGreatDoorSp1
namespace Go.PM
open Go.RowKit
open Go.Lib (indexByte)
def cutB (s : ByteArray) (c : UInt8) : ByteArray × ByteArray × Bool :=
  if 0 ≤ indexByte s.data.toList c then (s.extract 0 (indexByte s.data.toList c).toNat, s.extract ((indexByte s.data.toList c).toNat + 1) s.size, true) else (s, ⟨#[]⟩, false)
theorem ixB_lt (l : List UInt8) (c : UInt8) : indexByte l c < l.length := by
  induction l with
  | nil => show (-1 : Int) < 0; decide
  | cons b l ih =>
    unfold indexByte
    split
    · simp only [List.length_cons]; omega
    · split
      · simp; omega
      · simp only [List.length_cons]; omega
theorem results_tmp3 {fn : Func} {t u x : Tmp} (h : fn.results = #[.tmp t, .tmp u, .tmp x]) (tmps : Array Value) (P : Program) (w : World) :
    (results fn tmps).run P w = .ok (.tuple #[tmps.getD t undef, tmps.getD u undef, tmps.getD x undef]) w := by
  simp [results, h]
end Go.PM
namespace Go.Proofs.YtfedloljhocpgaaGreatDoor
open Go.RowKit Go.PM
open Go.Lib (indexByte)

set_option maxRecDepth 100000 in
set_option maxHeartbeats 800000 in
theorem litCut_c (s : ByteArray) (c : UInt8) (w : World) (hs : s.size ≤ 1048576) :
    Calls Tryz.prog 225 #[.string s, .string ⟨#[c]⟩] w fun e w' => e = .returned (.tuple #[.string (cutB s c).1, .string (cutB s c).2.1, .bool (cutB s c).2.2]) ∧ Below w.heap.size w w' := by
  have hI : ∀ W, Calls Tryz.prog 180 #[.string s, .string ⟨#[c]⟩] W fun e w' => e = .returned (.int .i64 (indexByte s.data.toList c)) ∧ W = w' := fun W =>
    (Tryz.stringslite_Index_one s c W).mono fun _ _ ⟨h1, h2⟩ => ⟨h1, h2.symm⟩
  have hlt := ixB_lt s.data.toList c
  rw [size_data] at hlt
  have h1 : (ByteArray.mk #[c]).size = 1 := rfl
  by_cases h : 0 ≤ indexByte s.data.toList c
  · have HB : Hid (cutB s c = (s.extract 0 (indexByte s.data.toList c).toNat, s.extract ((indexByte s.data.toList c).toNat + 1) s.size, true)) := if_pos h
    obtain ⟨k, hk⟩ := Int.eq_ofNat_of_zero_le h
    rw [hk] at hI hlt HB h
    rw [HB.out]
    clear HB hk
    have i1 : (k : Int) < (s.size : Int) := hlt
    go_enter Tryz.func225, Tryz.ntmps225
    go_wp2_with fail
    refine (hI _).mono ?_
    rintro e w1 ⟨rfl, rfl⟩
    go_wp2
    refine wp_region_quiet (C := fun w' => w' = w.drew) (by kernel_rfl) (by kernel_rfl) rfl ?_
    simp only
    repeat (go_big_quiet_step (fail))
    refine wpQuiet_nil ?_
    intro w' hw'
    subst hw'
    go_wp2
    refine bodyPost_ret (results_tmp3 Tryz.results225 _ _ _) rfl ?_
    exact ⟨rfl, (Below.refl _ _).drew⟩
  · have HB : Hid (cutB s c = (s, ⟨#[]⟩, false)) := if_neg h
    rw [HB.out]
    clear HB
    have t : decide (0 ≤ indexByte s.data.toList c) = false := decide_eq_false h
    generalize indexByte s.data.toList c = i at *
    go_enter Tryz.func225, Tryz.ntmps225
    go_wp2_with fail
    refine (hI _).mono ?_
    rintro e w1 ⟨rfl, rfl⟩
    go_wp2
    refine bodyPost_ret (results_tmp3 Tryz.results225 _ _ _) rfl ?_
    exact ⟨rfl, Below.refl _ _⟩

set_option maxHeartbeats 400000 in
theorem strCut_c (s : ByteArray) (c : UInt8) (w : World) (hs : s.size ≤ 1048576) :
    Calls Tryz.prog 163 #[.string s, .string ⟨#[c]⟩] w fun e w' => e = .returned (.tuple #[.string (cutB s c).1, .string (cutB s c).2.1, .bool (cutB s c).2.2]) ∧ Below w.heap.size w w' := by
  have HC := Lib.hid (litCut_c s c w hs)
  generalize cutB s c = q at *
  go_enter Tryz.func163, Tryz.ntmps163
  go_wp2_with fail
  refine HC.out.mono ?_
  rintro e w1 ⟨rfl, hb⟩
  go_wp2
  refine bodyPost_ret (results_tmp3 Tryz.results163 _ _ _) rfl ?_
  exact ⟨rfl, hb⟩
end Go.Proofs.YtfedloljhocpgaaGreatDoor

