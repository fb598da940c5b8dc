/- Proved: for every input of the form's own reach the law FnWheels answers true and its argument reads afterwards as before; no further condition. -/
import Derived.Test.YtmifmfljiaoeaabSp1
import Derived.Test.YtmifmfljiaoeaabRow
import Derived.Test.YtmifmfljiaoeaabApp
import Derived.Test.YtmifmfljiaoeaabHold
import Derived.Laws.BitsAllLaws
import Derived.Laws.BitsLemmas
import Derived.Test.YtmifmfljiaoeaabIm1
import Derived.Test.YtmifmfljiaoeaabCut
import Derived.Test.YtmifmfljiaoeaabTail
import Derived.Test.YtmifmfljiaoeaabMarkT
import Derived.Test.YtmifmfljiaoeaabRings
import Derived.Test.YtmifmfljiaoeaabRows
import Derived.Test.YtmifmfljiaoeaabLib
import Derived.ProofKit
import Derived.OpenShut
import Derived.ShutString
import Derived.ChangeOld
import Derived.Deep.Slices
import Derived.ChangeSame
import Derived.Carry
import Derived.Test.YtmifmfljiaoeaabReaders
import Derived.Test.YtmifmfljiaoeaabOrderP
import Derived.Test.YtmifmfljiaoeaabWheelsI
import Derived.Test.YtmifmfljiaoeaabWheelsS
import Derived.Test.YtmifmfljiaoeaabRingsI
import Derived.Test.YtmifmfljiaoeaabLeaves
namespace Go.PM
open Go.RowKit
/-- a slice of bytes that lies below a block -/
def RdB (w : World) (B : Nat) (v : Value) (n : Nat) : Prop :=
  ∃ A cap, v = .slice A n cap ∧ n ≤ cap ∧ n ≤ 9223372036854775807 ∧ ∀ k, k < n → ∃ b off c, A = some ⟨b, off, none⟩ ∧ b < B ∧ b < w.heap.size ∧ w.cell? ⟨b, off + k, none⟩ = some (.int .u8 c) ∧ 0 ≤ c ∧ c < 256
theorem RdB.keep {w w' : World} {B n : Nat} {v : Value} {row : Option Nat} (h : RdB w B v n) (hg : w.grownBy w' row) (hne : ∀ r, row = some r → B ≤ r) : RdB w' B v n := by
  obtain ⟨A, cap, e, h1, h2, h3⟩ := h
  refine ⟨A, cap, e, h1, h2, fun k hk => ?_⟩
  obtain ⟨b, off, c, e1, hb, hl, hc, hc0, hc1⟩ := h3 k hk
  have hs := hg.size
  refine ⟨b, off, c, e1, hb, by omega, ?_, hc0, hc1⟩
  have hh := hg.block b hl (fun e => by have := hne b e.symm; omega)
  simp only [World.cell?, hh] at hc ⊢
  exact hc
/-- a reader: its bytes and its place -/
def Rdr (w : World) (t : TypeId) (B r : Nat) (p : Int) : Prop :=
  B ≤ r ∧ 0 ≤ p ∧ ∃ v n, n ≤ 2000 ∧ RdB w B v n ∧ At w r t #[v, .int .i64 p]
theorem Rdr.keep {w w' : World} {t : TypeId} {B r : Nat} {p : Int} (h : Rdr w t B r p) (hb : Below w.heap.size w w') : Rdr w' t B r p := by
  obtain ⟨h1, h0, v, n, hn, h2, h3⟩ := h
  exact ⟨h1, h0, v, n, hn, h2.keep (grown_below hb none) (fun r e => by cases e), h3.keep hb⟩
theorem grown_set (w : World) (b i : Nat) (v : Value) : w.grownBy (w.setCell ⟨b, i, none⟩ v) (some b) :=
  ⟨rfl, rfl, rfl, by rw [World.size_setCell]; exact Nat.le_refl _, fun k _ hne => heap_setCell_other _ _ _ _ (fun e => hne (by rw [e]))⟩
theorem i64_xor (a b : Int) (h1 : 0 ≤ a) (h2 : a < 9223372036854775808) (h3 : 0 ≤ b) (h4 : b < 9223372036854775808) : 0 ≤ bits .xor .i64 a b ∧ bits .xor .i64 a b < 9223372036854775808 := by
  obtain ⟨x, rfl⟩ := Int.eq_ofNat_of_zero_le h1
  obtain ⟨y, rfl⟩ := Int.eq_ofNat_of_zero_le h3
  have hx : x ^^^ y < 2 ^ 63 := Nat.xor_lt_two_pow (by omega) (by omega)
  have e : bits .xor .i64 (x : Int) (y : Int) = ((x ^^^ y : Nat) : Int) := by
    show IntKind.i64.wrap ((BitVec.ofInt 64 (x : Int) ^^^ BitVec.ofInt 64 (y : Int)).toNat : Int) = _
    have ox : (BitVec.ofInt 64 (x : Int)).toNat = x := by simp; omega
    have oy : (BitVec.ofInt 64 (y : Int)).toNat = y := by simp; omega
    rw [BitVec.toNat_xor, ox, oy]
    rw [IntKind.wrap_i64]
    omega
  rw [e]
  omega
/-- a literal list whose elements have a property -/
def Lits (w : World) (L m : Nat) (Pr : Value → Prop) : Prop := L < w.heap.size ∧ ∀ k, k < m → ∃ u, w.cell? ⟨L, k, none⟩ = some u ∧ Pr u
theorem Lits.keep {w w' : World} {L m : Nat} {Pr : Value → Prop} {row : Option Nat} (h : Lits w L m Pr) (hg : w.grownBy w' row) (hne : row ≠ some L) : Lits w' L m Pr := by
  have hs := hg.size
  refine ⟨by have := h.1; omega, fun k hk => ?_⟩
  obtain ⟨u, hu, hp⟩ := h.2 k hk
  have hh := hg.block L h.1 (fun e => hne e.symm)
  refine ⟨u, ?_, hp⟩
  simp only [World.cell?, hh] at hu ⊢
  exact hu
theorem Lits.new (w : World) (t : TypeId) (cs : Array Value) (Pr : Value → Prop) (h : ∀ u ∈ cs.toList, Pr u) : Lits (w.alloc (.cells cs t)) w.heap.size cs.size Pr := by
  refine ⟨by simp, fun k hk => ⟨cs[k], ?_, h _ (by simp)⟩⟩
  rw [(At.new w t cs).cell k]
  simp [hk]
def strOk (n : Nat) : Value → Bool
  | .string s => decide (s.size ≤ n)
  | _ => false
def intOk (n : Nat) : Value → Bool
  | .int .i64 x => decide (0 ≤ x) && decide (x ≤ n)
  | _ => false
theorem Lits.strs (w : World) (t : TypeId) (cs : Array Value) (n : Nat) (h : cs.toList.all (strOk n) = true) : Lits (w.alloc (.cells cs t)) w.heap.size cs.size (fun u => ∃ s, u = .string s ∧ s.size ≤ n) :=
  Lits.new w t cs _ fun u hu => by
    have := List.all_eq_true.1 h u hu
    cases u <;> first | (exact ⟨_, rfl, by simpa [strOk] using this⟩) | (simp [strOk] at this)
theorem Lits.ints (w : World) (t : TypeId) (cs : Array Value) (n : Nat) (h : cs.toList.all (intOk n) = true) : Lits (w.alloc (.cells cs t)) w.heap.size cs.size (fun u => ∃ x, u = .int .i64 x ∧ 0 ≤ x ∧ x ≤ n) :=
  Lits.new w t cs _ fun u hu => by
    have h2 := List.all_eq_true.1 h u hu
    unfold intOk at h2
    split at h2
    · rw [Bool.and_eq_true, decide_eq_true_eq, decide_eq_true_eq] at h2
      exact ⟨_, rfl, h2⟩
    · cases h2
end Go.PM
namespace Go.Proofs.Ytmifmfljiaoeaab
open Go.RowKit Go.PM

set_option maxRecDepth 100000 in
set_option maxHeartbeats 2000000 in
theorem pick_c (w : World) (B r : Nat) (n p : Int) (hr : Rdr w 116 B r p) (h1 : 1 ≤ n) (h2 : n ≤ 1048576) (p1 : p ≤ 1099511627776) :
    Calls Try.prog 66 #[.pointer (some ⟨r, 0, none⟩), .int .i64 n] w fun e w' => ∃ k : Int, e = .returned (.int .i64 k) ∧ 0 ≤ k ∧ k < n ∧ Rdr w' 116 B r (p + 1) ∧ w.grownBy w' (some r) := by
  obtain ⟨hB, p0, v, N, hN, hv, hA⟩ := hr
  obtain ⟨P, rfl⟩ := Int.eq_ofNat_of_zero_le p0
  clear p0
  have n0 : decide (n < 1) = false := decide_eq_false (by omega)
  have c0 : w.cell? ⟨r, 0, none⟩ = some v := hA.cell 0
  have c1 : w.cell? ⟨r, 1, none⟩ = some (.int .i64 (P : Int)) := hA.cell 1
  have f1 : w.frozen? ⟨r, 1, none⟩ = false := hA.frozen 1
  have n1 : At (w.setCell ⟨r, 1, none⟩ (.int .i64 ((P : Int) + 1))) r 116 #[v, .int .i64 ((P : Int) + 1)] := hA.set 1 _
  have g1 : w.grownBy (w.setCell ⟨r, 1, none⟩ (.int .i64 ((P : Int) + 1))) (some r) := grown_set w r 1 _
  have v1 := hv.keep g1 (fun r' e => by cases e; exact hB)
  have d0 := n1.cell 0
  have d1 := n1.cell 1
  have R1 : Rdr (w.setCell ⟨r, 1, none⟩ (.int .i64 ((P : Int) + 1))) 116 B r ((P : Int) + 1) := ⟨hB, by omega, v, N, hN, v1, n1⟩
  clear hv
  obtain ⟨A, cap, rfl, hc, _, hcell⟩ := v1
  generalize hw1 : w.setCell ⟨r, 1, none⟩ (.int .i64 ((P : Int) + 1)) = w1 at *
  by_cases hN0 : N = 0
  · have t1 : ((N : Int) == 0) = true := by simp [hN0]
    go_enter Try.func66, Try.ntmps66
    go_wp2
    go_ret
    exact ⟨0, rfl, by omega, by omega, R1, g1⟩
  · have t1 : ((N : Int) == 0) = false := by simp [hN0]
    have i0 : (0 : Int) ≤ (P : Int) := by omega
    by_cases hlt : P < N
    · obtain ⟨b, off, c, rfl, hbB, hbl, hc1, hc2, hc3⟩ := hcell P (by omega)
      have i1 : (P : Int) < N := by omega
      have hmn := Int.emod_nonneg c (show n ≠ 0 by omega)
      have hml := Int.emod_lt_of_pos c (show 0 < n by omega)
      go_enter Try.func66, Try.ntmps66
      go_wp2
      go_ret
      exact ⟨_, rfl, hmn, hml, R1, g1⟩
    · obtain ⟨b, off, c, rfl, hbB, hbl, hc1, hc2, hc3⟩ := hcell (P % N) (Nat.mod_lt _ (by omega))
      obtain ⟨b', off', c', e, _, _, hd1, hd2, hd3⟩ := hcell ((P * 7 + 3) % N) (Nat.mod_lt _ (by omega))
      obtain ⟨rfl, rfl⟩ : b = b' ∧ off = off' := by cases e; exact ⟨rfl, rfl⟩
      clear e
      have j0 : (0 : Int) ≤ (P : Int) % (N : Int) := Int.emod_nonneg _ (by omega)
      have j1 : (P : Int) % (N : Int) < (N : Int) := Int.emod_lt_of_pos _ (by omega)
      have k0 : (0 : Int) ≤ ((P : Int) * 7 + 3) % (N : Int) := Int.emod_nonneg _ (by omega)
      have k1 : ((P : Int) * 7 + 3) % (N : Int) < (N : Int) := Int.emod_lt_of_pos _ (by omega)
      have u0 : (0 : Int) ≤ (P : Int) / (N : Int) := Int.ediv_nonneg (by omega) (by omega)
      have u1 : (P : Int) / (N : Int) ≤ (P : Int) := Int.ediv_le_self _ (by omega)
      go_enter Try.func66, Try.ntmps66
      go_wp2
      refine wp_region_quiet (C := fun w' => w' = w1.drew) (by kernel_rfl) (by kernel_rfl) rfl ?_
      simp only
      repeat (go_big_quiet_step (fail))
      refine wpQuiet_nil ?_
      intro w' hw'
      subst hw'
      have X0 : 0 ≤ c * 131 + c' * 1117 + (P : Int) * 29 + (P : Int) / (N : Int) * 53 := by omega
      have X1 : c * 131 + c' * 1117 + (P : Int) * 29 + (P : Int) / (N : Int) * 53 ≤ 1000000000000000 := by omega
      clear hcell hc1 hd1 hlt
      generalize c * 131 + c' * 1117 + (P : Int) * 29 + (P : Int) / (N : Int) * 53 = X at *
      have hX := i64_xor X (X / 64) X0 (by omega) (by omega) (by omega)
      have hmn := Int.emod_nonneg (bits .xor .i64 X (X / 64)) (show n ≠ 0 by omega)
      have hml := Int.emod_lt_of_pos (bits .xor .i64 X (X / 64)) (show 0 < n by omega)
      obtain ⟨y0, y1⟩ := hX
      go_wp2
      go_ret
      exact ⟨_, rfl, hmn, hml, R1, ⟨g1.os, g1.tape, g1.output, g1.size, g1.block⟩⟩

set_option maxHeartbeats 800000 in
theorem l13Open_c (w : World) (v : Value) (n : Nat) (hv : RdB w w.heap.size v n) :
    Calls Try.prog 56 #[v] w fun e w' => ∃ r, e = .returned (.pointer (some ⟨r, 0, none⟩)) ∧ Rdr w' 116 w.heap.size r 0 ∧ Below w.heap.size w w' := by
  have hv0 := hv
  obtain ⟨A, cap, rfl, hc, hN, hcell⟩ := hv
  by_cases h : n ≤ 2000
  · have t1 : decide ((n : Int) > 2000) = false := by simp; omega
    go_enter Try.func56, Try.ntmps56
    go_wp2
    go_ret
    exact ⟨_, rfl, ⟨Nat.le_refl _, Int.le_refl _, _, n, h, (show RdB w w.heap.size (.slice A n cap) n from ⟨A, cap, rfl, by omega, by omega, fun k hk => hcell k (by omega)⟩).keep (grown_below ((Below.refl _ _).alloc (Nat.le_refl _) _) none) (fun r e => by cases e), At.new _ _ _⟩, (Below.refl _ _).alloc (Nat.le_refl _) _⟩
  · have t1 : decide ((n : Int) > 2000) = true := by simp; omega
    go_enter Try.func56, Try.ntmps56
    go_wp2
    go_ret
    exact ⟨_, rfl, ⟨Nat.le_refl _, Int.le_refl _, _, 2000, Nat.le_refl _, (show RdB w w.heap.size (.slice A (2000 : Nat) cap) 2000 from ⟨A, cap, rfl, by omega, by omega, fun k hk => hcell k (by omega)⟩).keep (grown_below ((Below.refl _ _).alloc (Nat.le_refl _) _) none) (fun r e => by cases e), At.new _ _ _⟩, (Below.refl _ _).alloc (Nat.le_refl _) _⟩

set_option maxHeartbeats 800000 in
theorem of_c (w : World) (B r L m : Nat) (p : Int) (Pr : ByteArray → Prop) (hr : Rdr w 116 B r p) (hm : 1 ≤ m) (hm2 : m ≤ 1048576) (p1 : p ≤ 1099511627776) (hL : Lits w L m (fun u => ∃ s, u = .string s ∧ Pr s)) (hne : L ≠ r) :
    Calls Try.prog 67 #[.pointer (some ⟨r, 0, none⟩), .slice (some ⟨L, 0, none⟩) m m] w fun e w' => ∃ s, e = .returned (.string s) ∧ Pr s ∧ Rdr w' 116 B r (p + 1) ∧ w.grownBy w' (some r) := by
  have HP := Lib.hid (pick_c w B r m p hr (by omega) (by omega) p1)
  go_enter Try.func67, Try.ntmps67
  go_wp2_with fail
  refine HP.out.mono ?_
  rintro e w1 ⟨k, rfl, k0, k1, R1, g1⟩
  obtain ⟨K, rfl⟩ := Int.eq_ofNat_of_zero_le k0
  have L1 := hL.keep g1 (fun e => hne (by cases e; rfl))
  obtain ⟨u, hu, s, rfl, hs⟩ := L1.2 K (by omega)
  go_wp2
  go_ret
  exact ⟨s, rfl, hs, R1, g1⟩
set_option maxHeartbeats 800000 in
theorem num_c (w : World) (B r L m : Nat) (p : Int) (Pr : Int → Prop) (hr : Rdr w 116 B r p) (hm : 1 ≤ m) (hm2 : m ≤ 1048576) (p1 : p ≤ 1099511627776) (hL : Lits w L m (fun u => ∃ x, u = .int .i64 x ∧ Pr x)) (hne : L ≠ r) :
    Calls Try.prog 114 #[.pointer (some ⟨r, 0, none⟩), .slice (some ⟨L, 0, none⟩) m m] w fun e w' => ∃ x, e = .returned (.int .i64 x) ∧ Pr x ∧ Rdr w' 116 B r (p + 1) ∧ w.grownBy w' (some r) := by
  have HP := Lib.hid (pick_c w B r m p hr (by omega) (by omega) p1)
  go_enter Try.func114, Try.ntmps114
  go_wp2_with fail
  refine HP.out.mono ?_
  rintro e w1 ⟨k, rfl, k0, k1, R1, g1⟩
  obtain ⟨K, rfl⟩ := Int.eq_ofNat_of_zero_le k0
  have L1 := hL.keep g1 (fun e => hne (by cases e; rfl))
  obtain ⟨u, hu, s, rfl, hs⟩ := L1.2 K (by omega)
  go_wp2
  go_ret
  exact ⟨s, rfl, hs, R1, g1⟩
end Go.Proofs.Ytmifmfljiaoeaab
namespace Go.PM
open Go.RowKit
open Go.Lib (indexByte)
/-- what is before the first such letter, what is behind it, and whether there is one -/
def cutB (s : ByteArray) (c : UInt8) : ByteArray × ByteArray × Bool :=
  if 0 ≤ indexByte s.data.toList c then (s.extract 0 (indexByte s.data.toList c).toNat, s.extract ((indexByte s.data.toList c).toNat + 1) s.size, true) else (s, ⟨#[]⟩, false)
theorem ixB_lt (l : List UInt8) (c : UInt8) : indexByte l c < l.length := by
  induction l with
  | nil => show (-1 : Int) < 0; decide
  | cons b l ih =>
    unfold indexByte
    split
    · simp only [List.length_cons]; omega
    · split
      · simp; omega
      · simp only [List.length_cons]; omega
theorem results_tmp3 {fn : Func} {t u x : Tmp} (h : fn.results = #[.tmp t, .tmp u, .tmp x]) (tmps : Array Value) (P : Program) (w : World) :
    (results fn tmps).run P w = .ok (.tuple #[tmps.getD t undef, tmps.getD u undef, tmps.getD x undef]) w := by
  simp [results, h]
end Go.PM
namespace Go.Proofs.Ytmifmfljiaoeaab
open Go.RowKit Go.PM
open Go.Lib (indexByte)

set_option maxRecDepth 100000 in
set_option maxHeartbeats 800000 in
theorem litCut_c (s : ByteArray) (c : UInt8) (w : World) (hs : s.size ≤ 1048576) :
    Calls Try.prog 110 #[.string s, .string ⟨#[c]⟩] w fun e w' => e = .returned (.tuple #[.string (cutB s c).1, .string (cutB s c).2.1, .bool (cutB s c).2.2]) ∧ Below w.heap.size w w' := by
  have hI : ∀ W, Calls Try.prog 141 #[.string s, .string ⟨#[c]⟩] W fun e w' => e = .returned (.int .i64 (indexByte s.data.toList c)) ∧ W = w' := fun W =>
    (Try.stringslite_Index_one s c W).mono fun _ _ ⟨h1, h2⟩ => ⟨h1, h2.symm⟩
  have hlt := ixB_lt s.data.toList c
  rw [size_data] at hlt
  have h1 : (ByteArray.mk #[c]).size = 1 := rfl
  by_cases h : 0 ≤ indexByte s.data.toList c
  · have HB : Hid (cutB s c = (s.extract 0 (indexByte s.data.toList c).toNat, s.extract ((indexByte s.data.toList c).toNat + 1) s.size, true)) := if_pos h
    obtain ⟨k, hk⟩ := Int.eq_ofNat_of_zero_le h
    rw [hk] at hI hlt HB h
    rw [HB.out]
    clear HB hk
    have i1 : (k : Int) < (s.size : Int) := hlt
    go_enter Try.func110, Try.ntmps110
    go_wp2_with fail
    refine (hI _).mono ?_
    rintro e w1 ⟨rfl, rfl⟩
    go_wp2
    refine wp_region_quiet (C := fun w' => w' = w.drew) (by kernel_rfl) (by kernel_rfl) rfl ?_
    simp only
    repeat (go_big_quiet_step (fail))
    refine wpQuiet_nil ?_
    intro w' hw'
    subst hw'
    go_wp2
    refine bodyPost_ret (results_tmp3 Try.results110 _ _ _) rfl ?_
    exact ⟨rfl, (Below.refl _ _).drew⟩
  · have HB : Hid (cutB s c = (s, ⟨#[]⟩, false)) := if_neg h
    rw [HB.out]
    clear HB
    have t : decide (0 ≤ indexByte s.data.toList c) = false := decide_eq_false h
    generalize indexByte s.data.toList c = i at *
    go_enter Try.func110, Try.ntmps110
    go_wp2_with fail
    refine (hI _).mono ?_
    rintro e w1 ⟨rfl, rfl⟩
    go_wp2
    refine bodyPost_ret (results_tmp3 Try.results110 _ _ _) rfl ?_
    exact ⟨rfl, Below.refl _ _⟩

set_option maxHeartbeats 400000 in
theorem strCut_c (s : ByteArray) (c : UInt8) (w : World) (hs : s.size ≤ 1048576) :
    Calls Try.prog 59 #[.string s, .string ⟨#[c]⟩] w fun e w' => e = .returned (.tuple #[.string (cutB s c).1, .string (cutB s c).2.1, .bool (cutB s c).2.2]) ∧ Below w.heap.size w w' := by
  have HC := Lib.hid (litCut_c s c w hs)
  generalize cutB s c = q at *
  go_enter Try.func59, Try.ntmps59
  go_wp2_with fail
  refine HC.out.mono ?_
  rintro e w1 ⟨rfl, hb⟩
  go_wp2
  refine bodyPost_ret (results_tmp3 Try.results59 _ _ _) rfl ?_
  exact ⟨rfl, hb⟩
end Go.Proofs.Ytmifmfljiaoeaab
namespace Go.PM
open Go.RowKit
open Go.Lib (indexByte)
/-- the pieces of a list between the letters c -/
def pcsL (c : UInt8) : List UInt8 → List (List UInt8)
  | [] => [[]]
  | b :: l => if b = c then [] :: pcsL c l else match pcsL c l with
    | p :: ps => (b :: p) :: ps
    | [] => [[b]]
theorem pcsL_none (c : UInt8) (l : List UInt8) (h : c ∉ l) : pcsL c l = [l] := by
  induction l with
  | nil => rfl
  | cons b l ih =>
    rw [List.mem_cons, not_or] at h
    rw [pcsL, if_neg (fun e => h.1 e.symm), ih h.2]
theorem pcsL_some (c : UInt8) (l1 l2 : List UInt8) (h : c ∉ l1) : pcsL c (l1 ++ c :: l2) = l1 :: pcsL c l2 := by
  induction l1 with
  | nil => rw [List.nil_append, pcsL, if_pos rfl]
  | cons b l ih =>
    rw [List.mem_cons, not_or] at h
    rw [List.cons_append, pcsL, if_neg (fun e => h.1 e.symm), ih h.2]
theorem ix_some (c : UInt8) (l1 l2 : List UInt8) (h : c ∉ l1) : indexByte (l1 ++ c :: l2) c = l1.length := by
  induction l1 with
  | nil => simp [indexByte]
  | cons b l ih =>
    rw [List.mem_cons, not_or] at h
    rw [List.cons_append, indexByte, ih h.2]
    have hb : (b == c) = false := by simpa using fun e => h.1 e.symm
    have h1 : (((l.length : Nat) : Int) == -1) = false := by simp
    rw [hb, h1]
    simp
def mkB (l : List UInt8) : ByteArray := ⟨l.toArray⟩
theorem mkB_data (s : ByteArray) : mkB s.data.toList = s := rfl
theorem mkB_list (l : List UInt8) : (mkB l).data.toList = l := rfl
/-- the pieces of a text -/
def pcsB (c : UInt8) (s : ByteArray) : List ByteArray := (pcsL c s.data.toList).map mkB
theorem ext_list (s : ByteArray) (a b : Nat) : (s.extract a b).data.toList = (s.data.toList.drop a).take (b - a) := by
  rw [ByteArray.data_extract, Array.toList_extract]
  try simp [List.extract_eq_drop_take]
theorem split_at (c : UInt8) (l : List UInt8) (h : c ∈ l) : ∃ l1 l2, l = l1 ++ c :: l2 ∧ c ∉ l1 := by
  induction l with
  | nil => cases h
  | cons b l ih =>
    by_cases e : b = c
    · subst e; exact ⟨[], l, rfl, by simp⟩
    · have h2 : c ∈ l := by
        rcases List.mem_cons.1 h with h | h
        · exact absurd h.symm e
        · exact h
      obtain ⟨l1, l2, rfl, h3⟩ := ih h2
      exact ⟨b :: l1, l2, rfl, by rw [List.mem_cons, not_or]; exact ⟨fun h => e h.symm, h3⟩⟩
/-- one cut: the first piece, and the pieces of what is left -/
theorem pcsB_cut (c : UInt8) (s : ByteArray) : pcsB c s = if (cutB s c).2.2 then (cutB s c).1 :: pcsB c (cutB s c).2.1 else [(cutB s c).1] := by
  by_cases h : c ∈ s.data.toList
  · obtain ⟨l1, l2, e, hn⟩ := split_at c _ h
    have hi : indexByte s.data.toList c = (l1.length : Nat) := by rw [e]; exact ix_some c l1 l2 hn
    have hB : cutB s c = (s.extract 0 l1.length, s.extract (l1.length + 1) s.size, true) := by
      unfold cutB
      rw [hi, if_pos (by omega)]
      rfl
    rw [hB, if_pos rfl]
    unfold pcsB
    rw [e, pcsL_some c l1 l2 hn, List.map_cons]
    have hsz : s.size = l1.length + 1 + l2.length := by rw [← size_data, e]; simp; omega
    have h1 : s.extract 0 l1.length = mkB l1 := by
      apply Go.WideShapes.bytes_inj
      rw [ext_list, e]; simp [mkB]
    have h2 : (s.extract (l1.length + 1) s.size).data.toList = l2 := by
      rw [ext_list, e, hsz]
      have h3 : (l1 ++ c :: l2).drop (l1.length + 1) = l2 := by
        rw [show l1 ++ c :: l2 = (l1 ++ [c]) ++ l2 by simp, show l1.length + 1 = (l1 ++ [c]).length by simp]
        exact List.drop_left
      rw [h3]
      exact List.take_of_length_le (by omega)
    rw [h1, h2]
  · have hi : ¬ 0 ≤ indexByte s.data.toList c := fun h2 => h ((indexByte_mem _ _).1 h2)
    have hB : cutB s c = (s, ⟨#[]⟩, false) := if_neg hi
    rw [hB]
    unfold pcsB
    rw [pcsL_none c _ h]
    rfl
theorem cutB_less (c : UInt8) (s : ByteArray) (h : (cutB s c).2.2 = true) : (cutB s c).2.1.size < s.size := by
  unfold cutB at h ⊢
  split at h
  · next hi =>
    rw [if_pos hi]
    have := ixB_lt s.data.toList c
    rw [size_data] at this
    simp only [ByteArray.size_extract]
    omega
  · cases h
theorem cutB_size (c : UInt8) (s : ByteArray) : (cutB s c).1.size ≤ s.size ∧ (cutB s c).2.1.size ≤ s.size := by
  unfold cutB
  split
  · simp only [ByteArray.size_extract]; omega
  · exact ⟨Nat.le_refl _, Nat.zero_le _⟩
/-- the scan finds the same pieces -/
theorem scan_pcs (s : ByteArray) (c : UInt8) : ∀ k, k ≤ s.size → ((cutS s c k).1 ++ (pcsL c (s.data.toList.drop (cutS s c k).2)).map mkB = pcsB c s) ∧ c ∉ (s.data.toList.drop (cutS s c k).2).take (k - (cutS s c k).2) ∧ (cutS s c k).2 ≤ k
  | 0, _ => ⟨rfl, by simp [cutS], Nat.le_refl _⟩
  | k + 1, hk => by
    obtain ⟨h1, h2, h3⟩ := scan_pcs s c k (by omega)
    have hks : k < s.size := by omega
    have hkl : k < s.data.toList.length := by rw [size_data]; exact hks
    have hsk : s.data.toList[k] = s[k] := rfl
    by_cases hc : s[k] = c
    · rw [cutS_yes s c k hks hc]
      refine ⟨?_, by simp, Nat.le_refl _⟩
      rw [← h1]
      generalize hfr : (cutS s c k).2 = fr at *
      have e : s.data.toList.drop fr = (s.data.toList.drop fr).take (k - fr) ++ c :: s.data.toList.drop (k + 1) := by
        have e1 := (List.take_append_drop (k - fr) (s.data.toList.drop fr)).symm
        rw [List.drop_drop, show fr + (k - fr) = k by omega, List.drop_eq_getElem_cons hkl, hsk, hc] at e1
        exact e1
      have e3 := pcsL_some c _ (s.data.toList.drop (k + 1)) h2
      rw [← e] at e3
      rw [e3, List.map_cons]
      have e4 : s.extract fr k = mkB ((s.data.toList.drop fr).take (k - fr)) := by
        apply Go.WideShapes.bytes_inj
        rw [ext_list]; rfl
      rw [e4]
      simp
    · rw [cutS_no s c k hks hc]
      refine ⟨h1, ?_, by omega⟩
      generalize hfr : (cutS s c k).2 = fr at *
      rw [show k + 1 - fr = (k - fr) + 1 by omega]
      intro hm
      rw [List.take_add_one] at hm
      rcases List.mem_append.1 hm with h | h
      · exact h2 h
      · rw [List.getElem?_drop, show fr + (k - fr) = k by omega, List.getElem?_eq_getElem hkl, hsk] at h
        have h5 : c = s[k] := by simpa using h
        exact hc h5.symm
theorem cutP_pcs (s : ByteArray) (c : UInt8) : cutP s c = pcsB c s := by
  obtain ⟨h1, h2, h3⟩ := scan_pcs s c s.size (Nat.le_refl _)
  unfold cutP
  rw [cutS_end]
  rw [← h1]
  generalize hfr : (cutS s c s.size).2 = fr at *
  have hl : (s.data.toList.drop fr).take (s.size - fr) = s.data.toList.drop fr := by
    rw [List.take_of_length_le]
    rw [List.length_drop, size_data]; exact Nat.le_refl _
  rw [hl] at h2
  rw [pcsL_none c _ h2]
  have e4 : s.extract fr s.size = mkB (s.data.toList.drop fr) := by
    apply Go.WideShapes.bytes_inj
    rw [ext_list, hl]; rfl
  rw [e4]; rfl
def tot : List (List UInt8) → Nat
  | [] => 0
  | p :: ps => p.length + 1 + tot ps
theorem tot_pcs (c : UInt8) (l : List UInt8) : tot (pcsL c l) = l.length + 1 := by
  induction l with
  | nil => rfl
  | cons b l ih =>
    unfold pcsL
    split
    · simp only [tot, List.length_nil, List.length_cons]; omega
    · cases h : pcsL c l with
      | nil => rw [h] at ih; simp [tot] at ih
      | cons p ps =>
        rw [h] at ih
        simp only [tot, List.length_cons] at ih ⊢
        omega
theorem tot_three : ∀ ps : List (List UInt8), (∀ p ∈ ps, p.length = 3) → tot ps = 4 * ps.length
  | [], _ => rfl
  | p :: ps, h => by
    have h1 := h p (by simp)
    have h2 := tot_three ps (fun q hq => h q (by simp [hq]))
    simp only [tot, List.length_cons]
    omega
theorem cutP_three {s : ByteArray} {c : UInt8} (h : ∀ x ∈ cutP s c, x.size = 3) : 4 * (cutP s c).length = s.size + 1 := by
  rw [cutP_pcs] at h ⊢
  unfold pcsB at h ⊢
  rw [List.length_map, ← tot_three _ (fun p hp => ?_), tot_pcs, size_data]
  have := h (mkB p) (List.mem_map.2 ⟨p, hp, rfl⟩)
  rw [← size_data] at this
  exact this
end Go.PM
namespace Go.PM
open Go.RowKit
def sinkB1 (md : Region.Mode) (ops : Array Oper) (n : Nat) : Bool :=
  (List.range n).all fun i => decide (i = 0) || (List.range (n + 1)).any fun j => decide (i < j) && Region.waitsFor md ops j i
section
variable {P : Program} {ops : Array Oper} {md : Region.Mode}
theorem tail_waits1 {n : Nat} {listed : Array Bool} (hs : sinkB1 md ops n = true) (hc : Region.chainB md ops n = true) (hn : n < ops.size) (inv : HeadInv md ops n listed) :
    ∀ (d i : Nat), n - i = d → 0 < i → i < n → listed.getD i true = false → ∀ t, n ≤ t → t ∉ Region.ready md ops listed := by
  intro d
  induction d using Nat.strongRecOn with
  | _ d ih =>
    intro i hd hi0 hi hun t ht hr
    obtain ⟨_, ot, hot, hall⟩ := mem_ready.1 hr
    have htlt : t < ops.size := (Array.getElem?_eq_some_iff.1 hot).1
    by_cases htn : t = n
    · subst htn
      have h1 := List.all_eq_true.1 hs i (List.mem_range.2 hi)
      rw [Bool.or_eq_true, decide_eq_true_eq] at h1
      have h1 := h1.resolve_left (by omega)
      obtain ⟨j, hj, hj2⟩ := List.any_eq_true.1 h1
      simp only [Bool.and_eq_true, decide_eq_true_eq] at hj2
      obtain ⟨oj, hoj, e, he, hb, hon⟩ := Region.waitsFor_spec hj2.2
      have hjle : j ≤ t := by have := List.mem_range.1 hj; omega
      by_cases hjt : j = t
      · subst hjt
        have : oj = ot := Option.some.inj (hoj.symm.trans hot)
        subst this
        have h2 := hall e he hb
        rw [hon, getD_both hun] at h2
        cases h2
      · cases hl : listed.getD j false with
        | true =>
          have h2 := inv.closed j oj hoj hl e he hb
          rw [hon, getD_both hun] at h2
          cases h2
        | false =>
          have hjs : j < listed.size := by rw [inv.size]; omega
          exact ih (t - j) (by omega) j rfl (by omega) (by omega) (getD_in hjs hl) t (Nat.le_refl _) hr
    · have h1 := List.all_eq_true.1 hc t (List.mem_range.2 htlt)
      simp only [Bool.or_eq_true, decide_eq_true_eq] at h1
      rcases h1 with h1 | h1
      · omega
      · obtain ⟨o', ho', e, he, hb, hon⟩ := Region.waitsFor_spec h1
        have : o' = ot := Option.some.inj (ho'.symm.trans hot)
        subst this
        have h2 := hall e he hb
        rw [hon, getD_both (inv.tail (t - 1) (by omega) (by omega))] at h2
        cases h2
end
section
variable {F : Fence} {m : Nat} {P : Program} {ops : Array Oper} {md : Region.Mode} {C D : World → Prop} {Q : Exit → Act → World → Prop}
theorem wpAnyLQ1_first {n i : Nat} {oi : Oper} {v : Value} {L : Array Bool → Act → Prop} (hi : ops[i]? = some oi) (hsel : ∀ (j : Nat) (o : Oper) cs b, ops[j]? = some o → o.op ≠ .select cs b)
    (hi0 : 0 < i) (hs : sinkB1 md ops n = true) (hc : Region.chainB md ops n = true) (hn : n < ops.size) (hin : i < n)
    (hdone : ∀ listed a, L listed a → ∀ j ∈ Region.ready md ops listed, n ≤ j) :
    ∀ (f : Nat) (listed : Array Bool) (a : Act), HeadInv md ops n listed →
      (∀ j oj, ops[j]? = some oj → j ≠ i → listed.getD j true = false → (∀ e ∈ oj.after, Region.binds md e = true → e.on ≠ i) → oi.apart ops oj = true) →
      i ∈ Region.ready md ops listed → YieldsQuiet F m P ops C oi v a →
      wpAnyLQIn F m P md ops C n L f (listed.setIfInBounds i true) (a.put oi.dst v) → wpAnyLQIn F m P md ops C n L (f + 1) listed a := by
  intro f
  induction f with
  | zero =>
    intro listed a inv _ hr hy H
    have hun := (mem_ready.1 hr).1
    refine ⟨fun h => (by rw [h] at hr; cases hr), fun j hj => ?_⟩
    have hjn : j < n := by
      rcases Nat.lt_or_ge j n with h | h
      · exact h
      · exact absurd hj (tail_waits1 hs hc hn inv _ i rfl hi0 hin hun j h)
    refine ⟨hjn, ?_⟩
    by_cases hji : j = i
    · subst hji; exact hy.qOpIn hi H
    · have := hdone _ _ H j (ready_mono hj hji)
      omega
  | succ f ih =>
    intro listed a inv hfree hr hy H
    have hun := (mem_ready.1 hr).1
    refine ⟨fun h => (by rw [h] at hr; cases hr), fun j hj => ?_⟩
    have hjn : j < n := by
      rcases Nat.lt_or_ge j n with h | h
      · exact h
      · exact absurd hj (tail_waits1 hs hc hn inv _ i rfl hi0 hin hun j h)
    refine ⟨hjn, ?_⟩
    by_cases hji : j = i
    · subst hji; exact hy.qOpIn hi H
    · have h1 := (H.2 j (ready_mono hj hji)).2
      obtain ⟨hjun, oj, hoj, hall⟩ := mem_ready.1 hj
      have hnot : ∀ e ∈ oj.after, Region.binds md e = true → e.on ≠ i := fun e he hb heq => by
        have h1 := hall e he hb
        rw [heq, getD_both hun] at h1
        cases h1
      have h2 := qOpIn_put hoj (hfree j oj hoj hji hjun hnot) (fun cs b => hsel i oi cs b hi) (fun cs b => hsel j oj cs b hoj) hy h1
      have hfree' : ∀ k ok, ops[k]? = some ok → k ≠ i → (listed.setIfInBounds j true).getD k true = false →
          (∀ e ∈ ok.after, Region.binds md e = true → e.on ≠ i) → oi.apart ops ok = true := fun k ok hk hki hun hno => by
        refine hfree k ok hk hki ?_ hno
        by_cases hjk : j = k
        · subst hjk; exact hjun
        · rw [getD_set_ne true hjk] at hun; exact hun
      refine qOpIn_mono (fun a' h3 => ih (listed.setIfInBounds j true) a' (inv.set hj hjn) hfree' (ready_mono hr (Ne.symm hji)) h3.1 ?_) h2
      rw [Array.setIfInBounds_comm _ _ hji]
      exact h3.2

theorem wpAnyLQ1_lex {n g : Nat} {Lq : Act → Prop} (hsel : Region.noSelect ops = true) (hs : sinkB1 md ops n = true) (hc : Region.chainB md ops n = true) (hn : n < ops.size) :
    ∀ (l : List Oper) (k : Nat) (listed : Array Bool) (a : Act), 0 < k → (∀ j, j < l.length → l[j]? = ops[k + j]?) → k + l.length = n → HeadInv md ops n listed →
    Region.lexHead md ops g l.length k listed = true → wpQuietIn F m P ops C Lq l a →
    wpAnyLQIn F m P md ops C n (fun listed' a' => Region.seqB md ops g n listed' = true ∧ Lq a') l.length listed a
  | [], k, listed, a, _, _, hk, _, hB, h => by
    have : k = n := by simpa using hk
    subst this
    exact ⟨by simpa [Region.lexHead] using hB, h⟩
  | o :: l, k, listed, a, hk0, hl, hk, inv, hB, h => by
    have h0 : ops[k]? = some o := by simpa using (hl 0 (by simp)).symm
    simp only [List.length_cons, Region.lexHead, Bool.and_eq_true] at hB
    obtain ⟨⟨hr, hf⟩, hB'⟩ := hB
    have hkn : k < n := by simp only [List.length_cons] at hk; omega
    have hr' : k ∈ Region.ready md ops listed := by simpa using hr
    have hst : qOpIn F m P ops C k (wpQuietIn F m P ops C Lq l) a := by unfold qOpIn; simp only [h0]; exact h
    obtain ⟨v, hy, hK⟩ := yieldsQuiet_of_qOpIn h0 hst
    exact wpAnyLQ1_first h0 (Region.noSelect_spec hsel) hk0 hs hc hn hkn (fun listed' a' hL => seqB_ready hL.1) l.length listed a inv (Region.free_spec h0 hf) hr' hy
      (wpAnyLQ1_lex hsel hs hc hn l (k + 1) _ _ (by omega) (fun j hj => by have := hl (j + 1) (by simp; omega); simpa [Nat.add_assoc, Nat.add_comm 1 j] using this) (by simp only [List.length_cons] at hk; omega) (inv.set hr' hkn) hB' hK)


/-- the same walk, a fact kept till an operation comes that waits for number 0 -/
def wpAnyT (F : Fence) (m : Nat) (P : Program) (md : Region.Mode) (ops : Array Oper) (D : World → Prop) (Q : Exit → Act → World → Prop) : Nat → Array Bool → Act → World → Prop
  | 0, listed, a, w => D w ∧ Region.ready md ops listed = [] ∧ Q .normal a w
  | f + 1, listed, a, w => D w ∧ (Region.ready md ops listed = [] → Q .normal a w) ∧ ∀ j ∈ Region.ready md ops listed,
      wpOpIn F m P ops Q j (fun a' w' => if Region.waitsFor md ops j 0 then wpAnyIn F m P md ops Q f (listed.setIfInBounds j true) a' w' else wpAnyT F m P md ops D Q f (listed.setIfInBounds j true) a' w') a w
theorem wpAnyT_any : ∀ (f : Nat) (listed : Array Bool) (a : Act) (w : World), wpAnyT F m P md ops D Q f listed a w → wpAnyIn F m P md ops Q f listed a w
  | 0, _, _, _, h => h.2
  | f + 1, listed, a, w, h => ⟨h.2.1, fun j hj => wpOpIn_mono (fun a' w' h' => by
      split at h'
      · exact h'
      · exact wpAnyT_any f _ a' w' h') (h.2.2 j hj)⟩
theorem wpAnyT_world {f : Nat} {listed : Array Bool} {a : Act} {w : World} (h : wpAnyT F m P md ops D Q f listed a w) : D w := by
  cases f <;> exact h.1
def YieldsD (P : Program) (ops : Array Oper) (D : World → Prop) (o : Oper) (v : Value) (a : Act) : Prop :=
  Region.wanted o (yielded ops a.tmps) = true ∧ (∀ w, D w → (execOp a.eval o).run P w = .ok (.value v) w) ∧ ∀ w, o.about P w a.eval = none
theorem YieldsD.of_same {o : Oper} {v : Value} {a a' : Act} (hy : YieldsD P ops D o v a) (he : execOp a'.eval o = execOp a.eval o) (hw : Region.wanted o (yielded ops a'.tmps) = Region.wanted o (yielded ops a.tmps)) (hb : ∀ w, o.about P w a'.eval = o.about P w a.eval) : YieldsD P ops D o v a' := by
  unfold YieldsD at *
  rw [he, hw]
  exact ⟨hy.1, hy.2.1, fun w => by rw [hb w]; exact hy.2.2 w⟩
theorem YieldsD.op {i : Nat} {o : Oper} {v : Value} {a : Act} (hro : F.round = none) (hi : ops[i]? = some o) (hy : YieldsD P ops D o v a) {K : Act → World → Prop} {w : World} (hw : D w) (h : K (a.put o.dst v) w) : wpOpIn F m P ops Q i K a w := by
  unfold wpOpIn
  simp only [hi, hy.1, if_true]
  unfold Oper.wpIn
  rw [hro, Oper.semAt_none, hy.2.1 w hw]
  exact ⟨(fun f hf => by rw [hy.2.2 w] at hf; cases hf), h⟩
theorem opD_put {j : Nat} {oi oj : Oper} {v : Value} (hro : F.round = none) (hj : ops[j]? = some oj) (hap : oi.apart ops oj = true)
    (hsi : ∀ cs b, oi.op ≠ .select cs b) (hsj : ∀ cs b, oj.op ≠ .select cs b)
    (hQ : ∀ c a w, Q (.panic c) (a.put oi.dst v) w → Q (.panic c) a w) {K : Act → World → Prop} {a : Act} {w : World}
    (hy : YieldsD P ops D oi v a) (h : wpOpIn F m P ops Q j K (a.put oi.dst v) w) :
    wpOpIn F m P ops Q j (fun a' w' => YieldsD P ops D oi v a' ∧ K (a'.put oi.dst v) w') a w := by
  obtain ⟨h1, h2, h3⟩ := Oper.apart_spec hap
  have keep : ∀ (a : Act), YieldsD P ops D oi v a → ∀ u, YieldsD P ops D oi v (a.put oj.dst u) := fun a hy u =>
    hy.of_same (execOp_put oi hsi a oj.dst u h3) (wanted_put oi a oj.dst u h3) (fun w => about_put oi w a oj.dst u h3)
  have keepD : ∀ d, YieldsD P ops D oi v { a with defers := d :: a.defers } := fun d => hy.of_same rfl rfl (fun _ => rfl)
  unfold wpOpIn at *
  simp only [hj] at *
  rw [wanted_put oj a oi.dst v h1, about_put oj w a oi.dst v h1] at h
  split
  · rename_i hw
    simp only [hw, if_true] at h
    unfold Oper.wpIn at *
    rw [about_put oj w a oi.dst v h1] at h
    refine ⟨h.1, ?_⟩
    have h := h.2
    rw [hro, Oper.semAt_none, execOp_put oj hsj a oi.dst v h1] at h
    rw [hro, Oper.semAt_none]
    generalize (execOp a.eval oj).run P w = r at *
    cases r with
    | ok x w' =>
      cases x <;> simp only [Oper.uponIn] at h ⊢
      case value u => exact ⟨keep a hy u, by rw [← Act.put_comm a v u h2]; exact h⟩
      case skip => exact ⟨keep a hy _, by rw [← Act.put_comm a v undef h2]; exact h⟩
      case defer d =>
        refine ⟨keep _ (keepD d) _, ?_⟩
        rw [← Act.put_comm _ v undef h2, ← Act.put_defers]
        exact h
      case enter f args =>
        refine ⟨h.1, CallsIn.mono h.2 fun e w'' he => ?_⟩
        cases e with
        | returned u => exact ⟨keep a hy u, by rw [← Act.put_comm a v u h2]; exact he⟩
        | panicked c => exact hQ _ _ _ he
        | outgrown => exact he
      case row row args => exact ⟨h.1, RowsIn.mono h.2 fun u w'' he => ⟨keep a hy u, by rw [← Act.put_comm a v u h2]; exact he⟩⟩
      case round l f tmps assign body =>
        refine ⟨h.1, RoundIn.mono h.2 fun e w'' he => ?_⟩
        cases e with
        | returned u => exact ⟨keep a hy u, by rw [← Act.put_comm a v u h2]; exact he⟩
        | panicked c => exact hQ _ _ _ he
        | outgrown => exact he
    | halt x w' =>
      cases x <;> simp only [Oper.uponIn] at h ⊢
      case panic u => exact hQ _ _ _ h
  · rename_i hw
    simp only [hw] at h
    exact ⟨h.1, keep a hy _, by rw [← Act.put_comm a v undef h2]; exact h.2⟩
theorem late_first {oi : Oper} {v : Value} (hro : F.round = none) (hi : ops[0]? = some oi) (hsel : ∀ (j : Nat) (o : Oper) cs b, ops[j]? = some o → o.op ≠ .select cs b)
    (hQ : ∀ c a w, Q (.panic c) (a.put oi.dst v) w → Q (.panic c) a w) :
    ∀ (fuel : Nat) (listed : Array Bool) (a : Act) (w : World),
      (∀ j oj, ops[j]? = some oj → j ≠ 0 → listed.getD j true = false → (∀ e ∈ oj.after, Region.binds md e = true → e.on ≠ 0) → oi.apart ops oj = true) →
      0 ∈ Region.ready md ops listed → YieldsD P ops D oi v a →
      wpAnyT F m P md ops D Q fuel (listed.setIfInBounds 0 true) (a.put oi.dst v) w → wpAnyIn F m P md ops Q (fuel + 1) listed a w := by
  intro fuel
  induction fuel with
  | zero =>
    intro listed a w _ hr hy H
    refine ⟨fun h => (by rw [h] at hr; cases hr), fun j hj => ?_⟩
    by_cases hji : j = 0
    · subst hji; exact hy.op hro hi H.1 H.2
    · have := ready_mono hj hji
      rw [H.2.1] at this
      cases this
  | succ fuel ih =>
    intro listed a w hfree hr hy H
    refine ⟨fun h => (by rw [h] at hr; cases hr), fun j hj => ?_⟩
    by_cases hji : j = 0
    · subst hji; exact hy.op hro hi H.1 (wpAnyT_any _ _ _ _ H)
    · have h1 := H.2.2 j (ready_mono hj hji)
      obtain ⟨hjun, oj, hoj, hall⟩ := mem_ready.1 hj
      have hun0 := (mem_ready.1 hr).1
      have hnot : ∀ e ∈ oj.after, Region.binds md e = true → e.on ≠ 0 := fun e he hb heq => by
        have h1 := hall e he hb
        rw [heq, getD_both hun0] at h1
        cases h1
      have hnw : Region.waitsFor md ops j 0 = false := by
        cases hwf : Region.waitsFor md ops j 0 with
        | false => rfl
        | true =>
          obtain ⟨o', ho', e, he, hb, hon⟩ := Region.waitsFor_spec hwf
          have : o' = oj := Option.some.inj (ho'.symm.trans hoj)
          subst this
          exact absurd hon (hnot e he hb)
      have h2 := opD_put hro hoj (hfree j oj hoj hji hjun hnot) (fun cs b => hsel 0 oi cs b hi) (fun cs b => hsel j oj cs b hoj) hQ hy h1
      have hfree' : ∀ k ok, ops[k]? = some ok → k ≠ 0 → (listed.setIfInBounds j true).getD k true = false →
          (∀ e ∈ ok.after, Region.binds md e = true → e.on ≠ 0) → oi.apart ops ok = true := fun k ok hk hki hun hno => by
        refine hfree k ok hk hki ?_ hno
        by_cases hjk : j = k
        · subst hjk; exact hjun
        · rw [getD_set_ne true hjk] at hun; exact hun
      refine wpOpIn_mono (fun a' w' h3 => ih (listed.setIfInBounds j true) a' w' hfree' (ready_mono hr (Ne.symm hji)) h3.1 ?_) h2
      have h4 := h3.2
      rw [hnw, if_neg (by decide)] at h4
      rw [Array.setIfInBounds_comm _ _ hji]
      exact h4
theorem wpAnyT_of_headQ {n g : Nat} {L : Array Bool → Act → Prop} (hro : F.round = none) (hCD : ∀ w, C w → D w) (hL : ∀ listed a w, C w → L listed a → wpAnyT F m P md ops D Q g listed a w) :
    ∀ (f : Nat) (listed : Array Bool) (a : Act) (w : World), C w → wpAnyLQIn F m P md ops C n L f listed a → wpAnyT F m P md ops D Q (f + g) listed a w
  | 0, listed, a, w, hw, h => by rw [Nat.zero_add]; exact hL _ _ _ hw h
  | f + 1, listed, a, w, hw, h => by
    rw [show f + 1 + g = (f + g) + 1 by omega]
    refine ⟨hCD w hw, fun h0 => absurd h0 h.1, fun i hi => wpOpIn_of_qOpIn hro hw (fun a' w' hw' h' => ?_) (h.2 i hi).2⟩
    have := wpAnyT_of_headQ hro hCD hL f _ a' w' hw' h'
    split
    · exact wpAnyT_any _ _ _ _ this
    · exact this
/-- what is asked of the region's form -/
def lateB (ops : Array Oper) (n : Nat) : Bool :=
  Region.noSelect ops && decide (0 < n) && decide (n + 1 < ops.size) && sinkB1 .any ops n && Region.chainB .any ops n && Region.lexHead .any ops (ops.size - n) (n - 1) 1 ((Array.replicate ops.size false).setIfInBounds 0 true) &&
    Region.waitsFor .any ops (n + 1) 0 && Region.free .any ops (Array.replicate ops.size false) 0 && (Region.ready .any ops (Array.replicate ops.size false)).contains 0
/-- A region that draws its order, whose first operation reads what only the last ones turn: it first, n - 1 quiet ones, one that may make memory, the others one behind the other. -/
theorem any_late {a : Act} {w : World} {l : List Oper} (n : Nat) (hro : F.round = none) (hB : lateB l.toArray n = true) (o0 on : Oper) (h0 : l[0]? = some o0) (hon : l[n]? = some on) (hgn : on.guard = none) (v0 : Value)
    (hQ : ∀ c a w, Q (.panic c) (a.put o0.dst v0) w → Q (.panic c) a w) (hy : YieldsD P l.toArray D o0 v0 a) (hCD : ∀ w, C w → D w) (hC : C w)
    (h : wpQuietIn F m P l.toArray C (fun a' => ∀ w', C w' → ∀ K : Act → World → Prop, (∀ a'' w'', D w'' → wpListIn F m P l.toArray Q (l.drop (n + 1)) a'' w'' → K a'' w'') → Oper.wpIn F m P on a' w' K Q) ((l.drop 1).take (n - 1)) (a.put o0.dst v0)) :
    wpAnyIn F m P .any l.toArray Q l.toArray.size (Array.replicate l.toArray.size false) a w := by
  simp only [lateB, Bool.and_eq_true, decide_eq_true_eq] at hB
  obtain ⟨⟨⟨⟨⟨⟨⟨⟨hsel, hn0⟩, hn⟩, hs⟩, hc⟩, hlex⟩, hw0⟩, hf0⟩, hr0⟩ := hB
  have hn' : n + 1 < l.length := by simpa using hn
  have hr0' : 0 ∈ Region.ready .any l.toArray (Array.replicate l.toArray.size false) := by simpa using hr0
  have h0a : l.toArray[0]? = some o0 := by simpa using h0
  have inv0 : HeadInv .any l.toArray n (Array.replicate l.toArray.size false) :=
    ⟨by simp, fun j oj _ hl => (by rw [getD_replicate_false] at hl; cases hl), fun t _ ht => getD_in (by simpa using ht) (getD_replicate_false _ _)⟩
  have inv1 := inv0.set hr0' hn0
  have htl : ((l.drop 1).take (n - 1)).length = n - 1 := by simp; omega
  have H := wpAnyLQ1_lex (md := .any) (g := l.toArray.size - n) hsel hs hc (by omega) ((l.drop 1).take (n - 1)) 1 _ (a.put o0.dst v0) (by decide) (fun j hj => by
    have hj' : j < n - 1 := by rw [htl] at hj; exact hj
    simp [hj', Nat.add_comm]) (by rw [htl]; omega) inv1 (by rw [htl]; exact hlex) h
  have T := wpAnyT_of_headQ (D := D) (Q := Q) (g := l.toArray.size - n) hro hCD (fun listed a' w' hw' hL => by
    obtain ⟨hseq, hLq⟩ := hL
    obtain ⟨g, hg⟩ : ∃ g, l.toArray.size - n = g + 1 + 1 := ⟨l.toArray.size - n - 2, by simp; omega⟩
    rw [hg] at hseq ⊢
    simp only [Region.seqB, Bool.and_eq_true, decide_eq_true_eq] at hseq
    refine ⟨hCD w' hw', fun h1 => (by rw [hseq.1] at h1; cases h1), fun i hi => ?_⟩
    rw [hseq.1] at hi
    have hin : i = n := by simpa using hi
    subst hin
    have hona : l.toArray[i]? = some on := by simpa using hon
    unfold wpOpIn
    simp only [hona]
    have hwn : Region.wanted on (yielded l.toArray a'.tmps) = true := by simp [Region.wanted, hgn]
    rw [if_pos hwn]
    refine hLq w' hw' _ (fun a'' w'' hD hlist => ?_)
    have hdl : (l.drop (i + 1)).length = g + 1 := by simp at hg ⊢; omega
    have hany := wpAnyIn_of_seq' (md := .any) (Q' := Q) (l.drop (i + 1)) (i + 1) (listed.setIfInBounds i true) a'' w'' (fun j => by simp [List.getElem?_drop]) (by rw [hdl]; simp only [Region.seqB, Bool.and_eq_true, decide_eq_true_eq]; exact hseq.2) hlist
    rw [hdl] at hany
    split
    · exact hany
    · refine ⟨hD, hany.1, fun j hj => ?_⟩
      rw [hseq.2.1] at hj
      have hjn : j = i + 1 := by simpa using hj
      subst hjn
      simp only [hw0, if_true]
      exact hany.2 _ (by rw [hseq.2.1]; simp)) _ _ _ _ hC H
  rw [htl, show n - 1 + (l.toArray.size - n) = l.toArray.size - 1 by omega] at T
  have := late_first (md := .any) hro h0a (Region.noSelect_spec hsel) hQ (l.toArray.size - 1) _ a w (Region.free_spec h0a hf0) hr0' hy T
  rw [show l.toArray.size - 1 + 1 = l.toArray.size by omega] at this
  exact this
theorem region_late_inRound {id r : Nat} {a : Act} {w : World} {l : List Oper} (n : Nat) (hro : F.round = none) (hd : noDefer l.toArray = true) (hm : P.follows .mixedOrders = true) (hB : lateB l.toArray n = true) (o0 on : Oper) (h0 : l[0]? = some o0) (hon : l[n]? = some on) (hgn : on.guard = none) (v0 : Value)
    (hQ : ∀ c a w, Q (.panic c) (a.put o0.dst v0) w → Q (.panic c) a w) (hy : YieldsD P l.toArray D o0 v0 a) (hCD : ∀ w, C w → D w) (hC : C w.drew)
    (h : wpQuietIn F m P l.toArray C (fun a' => ∀ w', C w' → ∀ K : Act → World → Prop, (∀ a'' w'', D w'' → wpListIn F m P l.toArray Q (l.drop (n + 1)) a'' w'' → K a'' w'') → Oper.wpIn F m P on a' w' K Q) ((l.drop 1).take (n - 1)) (a.put o0.dst v0)) :
    (Code.region id l.toArray true).wpIn (F.inRound r) m P Q a w :=
  region_inRound hro hd hm (any_late n hro hB o0 on h0 hon hgn v0 hQ hy hCD hC h)
end
end Go.PM
namespace Go.PM
open Go.RowKit
theorem box_apart {w : World} {base : Nat} {e t : TypeId} {size n b : Nat} {v : Value} {cs : List Value} {c : Array Value} (h : w.ownsRow base e size v n cs) (hA : At w b t c) (hne : e ≠ t) : some b ≠ v.ownBlock := by
  rcases h.2 with ⟨rfl, _⟩ | ⟨g, cap, cur, rfl, _, hg, _⟩
  · simp [Value.ownBlock]
  · intro e'
    simp only [Value.ownBlock, Option.some.injEq] at e'
    subst e'
    unfold At at hA
    rw [hA] at hg
    cases hg
    exact hne rfl
/-- a row of one's own outlasts the turn of a block that is no cells -/
theorem row_turn {w w' : World} {base : Nat} {e : TypeId} {size n : Nat} {v : Value} {cs : List Value} {row : Option Nat} (h : w.ownsRow base e size v n cs) (hg : w.grownBy w' row) (hr : ∀ r, row = some r → ∃ o : Obj, w.heap[r]? = some o ∧ o.isCells = false) : w'.ownsRow base e size v n cs := by
  refine h.kept hg ?_
  rcases h.2 with ⟨rfl, _⟩ | ⟨g, cap, cur, rfl, _, hh, _⟩
  · exact .inl rfl
  · refine .inr fun e' => ?_
    obtain ⟨o, ho, hc⟩ := hr g e'.symm
    rw [hh] at ho
    cases ho
    cases hc
theorem at_turn {w w' : World} {b : Nat} {t : TypeId} {c : Array Value} {row : Option Nat} (h : At w b t c) (hg : w.grownBy w' row) (hr : ∀ r, row = some r → ∃ o : Obj, w.heap[r]? = some o ∧ o.isCells = false) : At w' b t c := by
  refine h.grown hg fun e' => ?_
  obtain ⟨o, ho, hc⟩ := hr b e'.symm
  unfold At at h
  rw [h] at ho
  cases ho
  cases hc
theorem yieldsD_move {P : Program} {ops : Array Oper} {D : World → Prop} {o : Oper} {a : Act} (hgd : o.guard = none) (x : Operand) (ho : o.op = .move x) (v : Value) (hx : a.eval x = v) : YieldsD P ops D o v a := by
  subst hx
  refine ⟨by simp [Region.wanted, hgd], fun w _ => ?_, fun w => by simp [Oper.about, ho]⟩
  simp [execOp, ho]
theorem region_late_wide {P : Program} {m : Nat} {C D : World → Prop} {Q : Exit → Act → World → Prop} {id : Nat} {a : Act} {w : World} {l : List Oper} (n : Nat) (hm : P.follows .mixedOrders = true) (hB : lateB l.toArray n = true) (o0 on : Oper) (h0 : l[0]? = some o0) (hon : l[n]? = some on) (hgn : on.guard = none) (v0 : Value)
    (hQ : ∀ c a w, Q (.panic c) (a.put o0.dst v0) w → Q (.panic c) a w) (hy : YieldsD P l.toArray D o0 v0 a) (hCD : ∀ w, C w → D w) (hC : C w.drew)
    (h : wpQuietIn Fence.wide m P l.toArray C (fun a' => ∀ w', C w' → ∀ K : Act → World → Prop, (∀ a'' w'', D w'' → wpListIn Fence.wide m P l.toArray Q (l.drop (n + 1)) a'' w'' → K a'' w'') → Oper.wpIn Fence.wide m P on a' w' K Q) ((l.drop 1).take (n - 1)) (a.put o0.dst v0)) :
    (Code.region id l.toArray true).wp P Q a w :=
  wpIn_wide.1 (wpIn_region_any hm (any_late n rfl hB o0 on h0 hon hgn v0 hQ hy hCD hC h))
theorem yieldsD_load {P : Program} {ops : Array Oper} {o : Oper} {a : Act} (hgd : o.guard = none) (ty : TypeId) (x : Operand) (ho : o.op = .load ty x) (e : TypeId) (hu : P.underlying ty = some (.slice e)) (b : Nat) (hx : a.eval x = .pointer (some ⟨b, 0, none⟩)) (v : Value) :
    YieldsD P ops (fun w => w.cell? ⟨b, 0, none⟩ = some v) o v a := by
  refine ⟨by simp [Region.wanted, hgd], fun w hw => ?_, fun w => by simp [Oper.about, ho]⟩
  have hagg : (isAgg ty).run P w = .ok false w := by
    unfold isAgg
    rw [Sem.run_bind, run_underlying hu w]
    rfl
  simp [execOp, ho, hx, Instr.loadAt, Instr.sureAddr, loadVar, Sem.run_bind, hagg, run_load, hw]
theorem sliceIn {F : Fence} {n : Nat} {P : Program} {o : Oper} {a : Act} {w : World} {K : Act → World → Prop} {Q : Exit → Act → World → Prop} (t e : TypeId) (len : Nat) (parts : Array (Nat × Operand)) (ho : o.op = .buildSlice t len parts)
    (cells : Array Value) (ie : TypeInfo) (z : Value)
    (hu : P.underlying t = some (.slice e)) (hie : P.info? e = some ie) (hz : ie.zero = some z) (hsmall : ¬ len * ie.size > 2 ^ 24) (hpos : ¬ len * ie.size = 0)
    (hf : Instr.fill (fun i => some (i * ie.size, ie.size)) ((Array.range (len * ie.size)).map (z.cells[· % z.cells.size]!)) (parts.map fun (i, x) => (i, a.eval x)).toList = some cells)
    (h : K (a.put o.dst (.slice (some ⟨w.heap.size, 0, none⟩) len len)) (w.alloc (.cells cells e))) : o.wpIn F n P a w K Q := by
  unfold Oper.wpIn
  refine ⟨by simp [Oper.about, ho], ?_⟩
  rw [Oper.semAt_plain F _ _ (by rw [ho]; intro c hc'; cases hc')]
  unfold execOp
  simp only [ho, Sem.run_bind, run_buildSlice w t e len _ cells ie z hu hie hz hsmall hpos hf, Result.andThen_ok]
  exact h
end Go.PM
namespace Go.Proofs.Ytmifmfljiaoeaab
open Go.RowKit Go.PM
theorem sliceIn_mv {F : Fence} {n : Nat} {o : Oper} {a : Act} {w : World} {K : Act → World → Prop} {Q : Exit → Act → World → Prop} (x : Operand) (ho : o.op = .buildSlice 23 1 #[(0, x)]) (s t : ByteArray) (hx : a.eval x = .agg #[.string s, .string t])
    (h : K (a.put o.dst (.slice (some ⟨w.heap.size, 0, none⟩) 1 1)) (w.alloc (.cells #[.string s, .string t] 38))) : o.wpIn F n Try.prog a w K Q := by
  obtain ⟨i0, hi0, hz0, hz1, hz2⟩ := info_parts infoMv
  refine sliceIn 23 38 1 #[(0, x)] ho #[.string s, .string t] i0 _ Try.underlying23 hi0 hz0 (by rw [hz1]; decide) (by rw [hz1]; decide) ?_ h
  have hr : Array.range 2 = #[0, 1] := by decide
  simp [hx, hz1, Instr.fill, Value.cells, hr]
theorem listIn_mv {F : Fence} {k : Nat} {ops : Array Oper} {rest : List Oper} {o : Oper} {a : Act} {Q : Exit → Act → World → Prop} {w : World} (hgd : o.guard = none) (s x : Operand)
    (ho : o.op = .call { callee := .builtin .append, args := #[s, x], argTypes := #[23, 23] })
    (base : Nat) (v : Value) (ys : List Mv) (m : Mv) (ad : Addr) (c : Nat) (hs : a.eval s = v) (hx : a.eval x = .slice (some ad) 1 c)
    (hown : w.ownsRow base 38 2 v ys.length (mcells ys)) (hnew : ∀ j u, [Value.string m.1, Value.string m.2][j]? = some u → w.cell? (ad.add j) = some u)
    (hlen : ys.length ≤ 1048576) (hbase : base ≤ w.heap.size)
    (h : ∀ v' w', w'.ownsRow base 38 2 v' (ys ++ [m]).length (mcells (ys ++ [m])) → w.grownBy w' v.ownBlock → wpListIn F k Try.prog ops Q rest (a.put o.dst v') w') : wpListIn F k Try.prog ops Q (o :: rest) a w := by
  obtain ⟨i0, hi0, hz0, hz1, hz2⟩ := info_parts infoMv
  refine wpListIn_append_own w hgd s x _ ho base 38 i0 _ 2 32 Try.underlying23 hi0 hz0 hz1 hz2 rfl (by omega) v ys.length (mcells ys) hs hown ad 1 c [Value.string m.1, Value.string m.2] hx rfl hnew
    (by intro u hu; simp at hu; rcases hu with rfl | rfl <;> rfl) (by simp only [maxLen]; omega) (by omega) hbase ?_
  intro v' w' h2 h3 _
  refine h v' w' ?_ h3
  rw [mcells_append, List.length_append]
  simpa [mcells] using h2
end Go.Proofs.Ytmifmfljiaoeaab
namespace Go.PM
open Go.RowKit
theorem cutS_size (s : ByteArray) (c : UInt8) (i : Nat) : ∀ x ∈ (cutS s c i).1, x.size ≤ s.size := by
  induction i with
  | zero => intro x hx; cases hx
  | succ i ih =>
    rw [cutS]
    split
    · intro x hx
      rcases List.mem_append.1 hx with h | h
      · exact ih x h
      · have : x = s.extract (cutS s c i).2 i := by simpa using h
        subst this
        rw [ByteArray.size_extract]
        omega
    · exact ih
theorem cutP_size {s : ByteArray} {c : UInt8} {x : ByteArray} (h : x ∈ cutP s c) : x.size ≤ s.size := cutS_size s c _ x h
theorem cutP_len (s : ByteArray) (c : UInt8) : (cutP s c).length ≤ s.size + 1 := cutS_len s c _
def pOk (x : ByteArray) : Bool := match x.data.toList with
  | [_, e, _] => decide (e = 61)
  | _ => false
def pM (x : ByteArray) : Mv := (x.extract 0 1, x.extract 2 x.size)
theorem three_of_size {x : ByteArray} (h : x.size = 3) : ∃ a b c, x = ⟨#[a, b, c]⟩ := by
  obtain ⟨⟨l⟩⟩ := x
  match l, h with
  | [a, b, c], _ => exact ⟨a, b, c, rfl⟩
theorem pOk_size {x : ByteArray} (h : ¬ x.size = 3) : pOk x = false := by
  obtain ⟨⟨l⟩⟩ := x
  unfold pOk
  split
  · next e => simp at e; subst e; exact absurd rfl h
  · rfl
def prsL (t : ByteArray) : List Mv := (cutP t 44).map pM
def prsOk (t : ByteArray) : Bool := decide (t = ⟨#[45]⟩) || ((cutP t 44).all pOk && mvalid (prsL t))
def prsM (t : ByteArray) : List Mv := if t = ⟨#[45]⟩ then [] else if (cutP t 44).all pOk && mvalid (prsL t) then prsL t else []
theorem all_no {α : Type} {p : α → Bool} {l : List α} (k : Nat) (hk : k < l.length) (h : p l[k] = false) : l.all p = false := by
  cases hh : l.all p with
  | false => rfl
  | true => rw [List.all_eq_true] at hh; rw [hh _ (List.getElem_mem hk)] at h; cases h
theorem all_yes {α : Type} {p : α → Bool} {l : List α} (h : ∀ k (hk : k < l.length), p l[k] = true) : l.all p = true := by
  rw [List.all_eq_true]
  intro x hx
  obtain ⟨k, hk, rfl⟩ := List.getElem_of_mem hx
  exact h k hk
theorem rows_apart {w : World} {base base' : Nat} {e e' : TypeId} {size size' n n' : Nat} {v v' : Value} {cs cs' : List Value} (h : w.ownsRow base e size v n cs) (h' : w.ownsRow base' e' size' v' n' cs') (hne : e ≠ e') : v.ownBlock ≠ v'.ownBlock ∨ v'.ownBlock = none := by
  rcases h'.2 with ⟨rfl, _⟩ | ⟨g, cap, cur, rfl, _, hg, _⟩
  · exact .inr rfl
  · refine .inl fun e1 => ?_
    rcases h.2 with ⟨rfl, _⟩ | ⟨g2, cap2, cur2, rfl, _, hg2, _⟩
    · cases e1
    · cases e1
      rw [hg] at hg2
      cases hg2
      exact hne rfl
theorem Rd.one {w : World} {v : Value} {ys : List ByteArray} (h : Rd w 1 v ys.length (ys.map Value.string)) : ∃ A cap, v = .slice A ys.length cap ∧ ys.length ≤ 9223372036854775807 ∧ ys.length ≤ cap ∧
    ∀ k (hk : k < ys.length), ∃ b off, A = some ⟨b, off, none⟩ ∧ b < w.heap.size ∧ w.cell? ⟨b, off + k, none⟩ = some (.string ys[k]) := by
  obtain ⟨A, cap, e, hc, hn, hl, hr⟩ := h
  refine ⟨A, cap, e, hn, hc, fun k hk => ?_⟩
  obtain ⟨b, off, eA, hb, hcell⟩ := hr (by omega)
  exact ⟨b, off, eA, hb, hcell k _ (by simp [hk])⟩
end Go.PM
namespace Go.Proofs.Ytmifmfljiaoeaab
open Go.RowKit Go.PM

set_option maxRecDepth 100000 in
set_option maxHeartbeats 3200000 in
theorem spParseMoves_c (t : ByteArray) (w : World) (ht : t.size ≤ 1048576) :
    Calls Try.prog 17 #[.string t] w fun e w' => ∃ v', e = .returned (.tuple #[v', .bool (prsOk t)]) ∧ w'.ownsRow w.heap.size 38 2 v' (prsM t).length (mcells (prsM t)) ∧ Below w.heap.size w w' := by
  have hE := World.ownsRow_lit (e := 38) (base := w.heap.size) (size := 2) w #[] 0 (Nat.le_refl _) (Nat.zero_le _) rfl
  have hd45 : (t.toList == [45]) = decide (t = ⟨#[45]⟩) := by
    have e : (ByteArray.mk #[45]).toList = [45] := by rw [ByteArray.toList_eq]
    have h := beq_str t ⟨#[45]⟩
    rw [e] at h; exact h
  by_cases h0 : t = ⟨#[45]⟩
  · have HK : Hid (prsOk t = true) := by show _ = _; rw [prsOk, decide_eq_true h0]; rfl
    have HM : Hid (prsM t = []) := if_pos h0
    subst h0
    clear hd45
    go_enter Try.func17, Try.ntmps17
    go_wp2
    go_ret2
    exact ⟨_, by rw [HK.out]; rfl, by rw [HM.out]; exact hE, by (repeat' (first | (with_reducible exact Below.refl _ _) | (with_reducible assumption) | (with_reducible refine Below.alloc ?_ ?_ _) | (with_reducible refine Below.drew ?_) | (with_reducible refine Below.setCell ?_ ?_ _) | (with_reducible exact Nat.le_refl _) | omega | ((repeat (first | rewrite [World.size_alloc] | rewrite [World.size_setCell] | rewrite [World.size_drew])); omega) | (simp; omega) | (simp; done)))⟩
  · have HK : Hid (prsOk t = ((cutP t 44).all pOk && mvalid (prsL t))) := by show _ = _; rw [prsOk, decide_eq_false h0]; rfl
    have HM : Hid (prsM t = if (cutP t 44).all pOk && mvalid (prsL t) then prsL t else []) := if_neg h0
    have HL : Hid (prsL t = (cutP t 44).map pM) := rfl
    have hb0 : (t.toList == [45]) = false := by rw [hd45, decide_eq_false h0]
    have HZ : Hid (∀ x ∈ cutP t 44, x.size ≤ 1048576) := fun x hx => Nat.le_trans (cutP_size hx) ht
    have hln := cutP_len t 44
    have HLB : Hid ((cutP t 44).all pOk = true → (cutP t 44).length ≤ 1048576) := fun h => by
      have := cutP_three (s := t) (c := 44) (fun x hx => by
        rcases Nat.decEq x.size 3 with h3 | h3
        · have h4 := List.all_eq_true.1 h x hx
          rw [pOk_size h3] at h4; cases h4
        · exact h3)
      omega
    have HLN : Hid ((prsL t).length = (cutP t 44).length) := by show _ = _; simp [prsL]
    have HZM : Hid (∀ m ∈ prsL t, m.1.size ≤ 9223372036854775807 ∧ m.2.size ≤ 9223372036854775807) := fun m hm => by
      obtain ⟨x, hx, rfl⟩ := List.mem_map.1 hm
      have := HZ.out x hx
      simp only [pM, ByteArray.size_extract]
      omega
    have HC := Lib.hid (l13Cut_c t 44 (w.alloc (.cells #[] 38)) ht)
    clear h0 hd45
    generalize prsL t = ms at *
    generalize cutP t 44 = ys at *
    go_enter Try.func17, Try.ntmps17
    go_wp2_with fail
    refine HC.out.mono ?_
    rintro e w1 ⟨u, rfl, ho1, hb1⟩
    have bel1 : Below w.heap.size w w1 := ((Below.refl _ _).alloc (Nat.le_refl _) _).trans (hb1.mono (by simp))
    have hs1 := bel1.size
    have hE1 := own_keep hE hb1
    obtain ⟨A, cap, rfl, hn, hc, _⟩ := Rd.one (Rd.of_own ho1)
    clear HC hE hb1
    go_wp2
    go_loopw [4, 6, 14] (fun o _ i wr => ∃ (k : Nat), k ≤ ys.length ∧ i = .int .i64 k ∧ Hid (∀ j (hj : j < ys.length), j < k → pOk ys[j] = true) ∧ wr.ownsRow w.heap.size 38 2 o ((ys.take k).map pM).length (mcells ((ys.take k).map pM)) ∧ Below w.heap.size w wr ∧ wr.ownsRow (w.alloc (.cells #[] 38)).heap.size 9 1 (.slice A ys.length cap) ys.length (ys.map Value.string)) (fun _ _ i _ => ys.length - (intOf i).toNat)
    case atStart => exact ⟨0, by omega, rfl, fun j _ h => absurd h (Nat.not_lt_zero _), hE1, bel1, ho1⟩
    case round =>
      obtain ⟨k, hk, rfl, hp, ho, hb, hy⟩ := hrel
      have hbs := hb.size
      by_cases hlt : k < ys.length
      · obtain ⟨A', cap', e', _, _, hcell⟩ := Rd.one (Rd.of_own hy)
        obtain ⟨rfl, rfl⟩ : A = A' ∧ cap = cap' := by cases e'; exact ⟨rfl, rfl⟩
        clear e'
        obtain ⟨b, off, rfl, hbl, hd1⟩ := hcell k hlt
        have hsz := HZ.out ys[k] (List.getElem_mem hlt)
        have HNO : Hid (pOk ys[k] = false → ys.all pOk = false) := fun h => all_no k hlt h
        have HST : Hid ((ys.take (k + 1)).map pM = (ys.take k).map pM ++ [pM ys[k]]) := by show _ = _; rw [take_snoc ys k hlt, List.map_append]; rfl
        have HPP : Hid (pOk ys[k] = true → ∀ j (hj : j < ys.length), j < k + 1 → pOk ys[j] = true) := fun h j hj hjk => by
          rcases Nat.lt_succ_iff_lt_or_eq.1 hjk with h2 | h2
          · exact hp.out j hj h2
          · subst h2; exact h
        have hl2 : ((ys.take k).map pM).length ≤ k := by simp; omega
        clear hcell
        generalize ys[k] = x at *
        by_cases h3 : x.size = 3
        · obtain ⟨a, e, c, rfl⟩ := three_of_size h3
          have hx0 : (ByteArray.mk #[a, e, c]).extract 0 1 = ⟨#[a]⟩ := rfl
          have hx1 : (ByteArray.mk #[a, e, c]).extract 2 3 = ⟨#[c]⟩ := rfl
          by_cases h61 : e = 61
          · subst h61
            have q : (((ByteArray.mk #[a, 61, c])[1].toNat : Int) != 61) = false := rfl
            have HPM : Hid (pM ⟨#[a, 61, c]⟩ = (⟨#[a]⟩, ⟨#[c]⟩)) := rfl
            have HP2 := Lib.hid (HPP.out rfl)
            have hnw := two_new wr.drew (.string ⟨#[a]⟩) (.string ⟨#[c]⟩) 38
            have hsd : wr.drew.heap.size = wr.heap.size := rfl
            go_wp2
            refine region_late_wide (m := 0) (C := fun w' => w' = wr.drew) (D := fun _ => True) 6 (by kernel_rfl) (by kernel_rfl) _ _ (by rfl) (by rfl) (by rfl) u4 (by intro _ _ _ h; exact h) (yieldsD_move (by rfl) _ (by rfl) u4 (by rfl)) (fun _ _ => trivial) rfl ?_
            simp only [List.take_succ_cons, List.take_zero, List.drop_succ_cons, List.drop_zero, Nat.reduceSub, Nat.reduceAdd]
            simp only [Act.put, List.setIfInBounds_toArray, List.set_cons_succ, List.set_cons_zero]
            repeat (gi_big_quiet_step (fail))
            refine wpQuietIn_nil ?_
            intro w' hw' K hK
            subst hw'
            refine sliceIn_mv (.tmp 32) rfl ⟨#[a]⟩ ⟨#[c]⟩ (by rfl) ?_
            refine hK _ _ trivial ?_
            clear hK K
            simp only [Act.put, List.setIfInBounds_toArray, List.set_cons_succ, List.set_cons_zero]
            refine listIn_mv rfl (.tmp 27) (.tmp 33) rfl w.heap.size u4 ((ys.take k).map pM) (⟨#[a]⟩, ⟨#[c]⟩) ⟨wr.drew.heap.size, 0, none⟩ 1 (by rfl) (by rfl) (own_keep (show wr.drew.ownsRow w.heap.size 38 2 u4 ((ys.take k).map pM).length (mcells ((ys.take k).map pM)) from ho) ((Below.refl _ _).alloc (Nat.le_refl _) _)) hnw (by omega) (by simp; omega) ?_
            intro v' w3 hown3 hgrow3
            have hb3 := below_grown hgrow3 (B := w.heap.size) (by simp; omega) (own_block_ge ho)
            have hy3 := own_grown (own_keep (show wr.drew.ownsRow (w.alloc (.cells #[] 38)).heap.size 9 1 (.slice (some ⟨b, off, none⟩) ys.length cap) ys.length (ys.map Value.string) from hy) ((Below.refl _ _).alloc (Nat.le_refl _) _)) hgrow3 (rows_apart hy ho (by decide))
            have hbd : Below w.heap.size w wr.drew := hb.drew
            gi_wp2
            go_wp2
            go_roundw
            case rel => exact ⟨k + 1, by omega, by go_num, HP2.out, by rw [HST.out, HPM.out]; exact hown3, (hbd.alloc hbs _).trans hb3, hy3⟩
            case measure => simp [intOf] <;> omega
          · have q : (((ByteArray.mk #[a, e, c])[1].toNat : Int) != 61) = true := by
              show ((e.toNat : Int) != 61) = true
              simp only [bne_iff_ne]
              intro h
              have h6 : (61 : UInt8).toNat = 61 := rfl
              exact h61 (UInt8.toNat_inj.1 (by omega))
            have HD : Hid (ys.all pOk = false) := HNO.out (decide_eq_false h61)
            have hE3 := World.ownsRow_lit (e := 38) (base := w.heap.size) (size := 2) wr #[] 0 hbs (Nat.zero_le _) rfl
            go_wp2
            go_ret2
            exact ⟨_, by rw [HK.out, HD.out]; rfl, by rw [HM.out, HD.out]; exact hE3, hb.alloc hbs _⟩
        · have q : ¬ ((x.size : Int) = 3) := by omega
          have HD : Hid (ys.all pOk = false) := HNO.out (pOk_size h3)
          have hE3 := World.ownsRow_lit (e := 38) (base := w.heap.size) (size := 2) wr #[] 0 hbs (Nat.zero_le _) rfl
          go_wp2
          go_ret2
          exact ⟨_, by rw [HK.out, HD.out]; rfl, by rw [HM.out, HD.out]; exact hE3, hb.alloc hbs _⟩
      · have hkk : k = ys.length := by omega
        have HA : Hid (ys.all pOk = true) := all_yes fun j hj => hp.out j hj (by omega)
        rw [hkk, List.take_of_length_le (Nat.le_refl _), ← HL.out] at ho
        have HMV := Lib.hid (spMovesValid_c ms u4 wr (Rd.of_own ho) HZM.out (by have := HLN.out; have := HLB.out HA.out; omega))
        go_wp2_with fail
        refine HMV.out.mono ?_
        rintro e w3 ⟨rfl, hb3⟩
        rcases Bool.eq_false_or_eq_true (mvalid ms) with hv | hv
        · have HV := Lib.hid hv
          rw [hv]
          have ho3 := own_keep ho hb3
          clear hv
          go_wp2
          go_ret2
          exact ⟨_, by rw [HK.out, HA.out, HV.out]; rfl, by rw [HM.out, HA.out, HV.out]; exact ho3, hb.trans (hb3.mono hbs)⟩
        · have HV := Lib.hid hv
          rw [hv]
          have hE3 := World.ownsRow_lit (e := 38) (base := w.heap.size) (size := 2) w3 #[] 0 (Nat.le_trans hbs hb3.size) (Nat.zero_le _) rfl
          clear hv
          go_wp2
          go_ret2
          exact ⟨_, by rw [HK.out, HA.out, HV.out]; rfl, by rw [HM.out, HA.out, HV.out]; exact hE3, ((hb.trans (hb3.mono hbs)).alloc (Nat.le_trans hbs hb3.size) _)⟩
end Go.Proofs.Ytmifmfljiaoeaab
namespace Go.PM
open Go.RowKit
def shortM (xs : List Mv) : Prop := xs.length ≤ 64 ∧ ∀ m ∈ xs, m.1.size ≤ 64 ∧ m.2.size ≤ 64
theorem prsM_short {t : ByteArray} (h : t.size ≤ 40) : shortM (prsM t) := by
  have hL : shortM (prsL t) := by
    refine ⟨?_, fun m hm => ?_⟩
    · have := cutP_len t 44
      simp only [prsL, List.length_map]
      omega
    · obtain ⟨x, hx, rfl⟩ := List.mem_map.1 hm
      have := cutP_size hx
      simp only [pM, ByteArray.size_extract]
      omega
  unfold prsM
  split
  · exact ⟨Nat.zero_le _, fun m hm => by cases hm⟩
  · split
    · exact hL
    · exact ⟨Nat.zero_le _, fun m hm => by cases hm⟩
end Go.PM
namespace Go.Proofs.Ytmifmfljiaoeaab
open Go.RowKit Go.PM

set_option maxRecDepth 100000 in
set_option maxHeartbeats 1600000 in
theorem l1Known_c (w : World) (k : Nat) (hk : k < 13) :
    Calls Try.prog 113 #[.int .i64 k] w fun e w' => ∃ v xs, e = .returned v ∧ w'.ownsRow w.heap.size 38 2 v xs.length (mcells xs) ∧ shortM xs ∧ Below w.heap.size w w' := by
  have H : ∀ (t : ByteArray) (W : World), t.size ≤ 40 → Below w.heap.size w W → Calls Try.prog 17 #[.string t] W fun e w' => ∃ v' b, e = .returned (.tuple #[v', .bool b]) ∧ ∃ xs, w'.ownsRow w.heap.size 38 2 v' xs.length (mcells xs) ∧ shortM xs ∧ Below w.heap.size w w' := fun t W ht hb =>
    (spParseMoves_c t W (by omega)).mono fun e w' ⟨v', h1, h2, h3⟩ => ⟨v', _, h1, _, own_more h2 hb.size, prsM_short ht, hb.trans (h3.mono hb.size)⟩
  have HH := Lib.hid H
  clear H
  rcases (show k = 0 ∨ k = 1 ∨ k = 2 ∨ k = 3 ∨ k = 4 ∨ k = 5 ∨ k = 6 ∨ k = 7 ∨ k = 8 ∨ k = 9 ∨ k = 10 ∨ k = 11 ∨ k = 12 by omega) with rfl | rfl | rfl | rfl | rfl | rfl | rfl | rfl | rfl | rfl | rfl | rfl | rfl
  all_goals
    clear hk
    go_enter Try.func113, Try.ntmps113
    go_wp2_with fail
    refine (HH.out _ _ (by decide) ((Below.refl _ _).alloc (Nat.le_refl _) _)).mono ?_
    rintro e w1 ⟨v', b, rfl, xs, h1, h2, h3⟩
    go_wp2
    go_ret
    exact ⟨_, xs, rfl, h1, h2, h3⟩

end Go.Proofs.Ytmifmfljiaoeaab
namespace Go.PM
open Go.RowKit
def strOk1 (n : Nat) : Value → Bool
  | .string s => decide (1 ≤ s.size) && decide (s.size ≤ n)
  | _ => false
theorem Lits.strs1 (w : World) (t : TypeId) (cs : Array Value) (n : Nat) (h : cs.toList.all (strOk1 n) = true) : Lits (w.alloc (.cells cs t)) w.heap.size cs.size (fun u => ∃ s, u = .string s ∧ 1 ≤ s.size ∧ s.size ≤ n) :=
  Lits.new w t cs _ fun u hu => by
    have h2 := List.all_eq_true.1 h u hu
    unfold strOk1 at h2
    split at h2
    · rw [Bool.and_eq_true, decide_eq_true_eq, decide_eq_true_eq] at h2
      exact ⟨_, rfl, h2⟩
    · cases h2
theorem grown_over {a b c : World} {row row' : Option Nat} (h : a.grownBy b row) (k : b.grownBy c row') (hn : ∀ g, row' = some g → a.heap.size ≤ g) : a.grownBy c row :=
  ⟨k.os.trans h.os, k.tape.trans h.tape, k.output.trans h.output, Nat.le_trans h.size k.size, fun i hi hne => (k.block i (Nat.lt_of_lt_of_le hi h.size) (fun e => by have := hn i e.symm; omega)).trans (h.block i hi hne)⟩
theorem Rdr.grow {w w' : World} {t : TypeId} {B r : Nat} {p : Int} {row : Option Nat} (h : Rdr w t B r p) (hg : w.grownBy w' row) (hne : ∀ g, row = some g → r < g) : Rdr w' t B r p := by
  obtain ⟨h1, h0, v, n, hn, h2, h3⟩ := h
  exact ⟨h1, h0, v, n, hn, h2.keep hg (fun g e => by have := hne g e; omega), h3.grown hg (fun e => by have := hne r e.symm; omega)⟩
end Go.PM
namespace Go.Proofs.Ytmifmfljiaoeaab
open Go.RowKit Go.PM
open Go.Lib (indexByte)

set_option maxRecDepth 100000 in
set_option maxHeartbeats 1600000 in
theorem l1Draw_c (w : World) (B r : Nat) (p : Int) (hr : Rdr w 116 B r p) (p1 : p ≤ 1000000000) :
    Calls Try.prog 65 #[.pointer (some ⟨r, 0, none⟩)] w fun e w' => ∃ v xs p', e = .returned v ∧ w'.ownsRow w.heap.size 38 2 v xs.length (mcells xs) ∧ shortM xs ∧ Rdr w' 116 B r p' ∧ p' ≤ p + 64 ∧ w.grownBy w' (some r) := by
  have hlt : r < w.heap.size := by obtain ⟨_, _, v, n, _, _, h⟩ := hr; exact h.lt
  have HP := Lib.hid (pick_c w B r 3 p hr (by omega) (by omega) (by omega))
  go_enter Try.func65, Try.ntmps65
  go_wp2_with fail
  refine HP.out.mono ?_
  rintro e w1 ⟨k, rfl, k0, k1, R1, g1⟩
  have hs1 := g1.size
  by_cases h0 : k = 0
  · subst h0
    have HP2 := Lib.hid (pick_c w1 B r 13 (p + 1) R1 (by omega) (by omega) (by omega))
    go_wp2_with fail
    refine HP2.out.mono ?_
    rintro e w2 ⟨k2, rfl, k20, k21, R2, g2⟩
    obtain ⟨K, rfl⟩ := Int.eq_ofNat_of_zero_le k20
    have hs2 := g2.size
    go_wp2_with fail
    refine (l1Known_c w2 K (by omega)).mono ?_
    rintro e w3 ⟨v, xs, rfl, ho, hsh, hb⟩
    go_wp2
    go_ret
    exact ⟨_, xs, _, rfl, own_more ho (by omega), hsh, R2.keep hb, by omega, grown_trans (grown_trans g1 g2) (grown_below hb _)⟩
  · have t0 : (k == 0) = false := by simpa using h0
    go_wp2_with fail
    have E0 := World.ownsRow_lit (e := 38) (base := w.heap.size) (size := 2) w1 #[] 0 hs1 (Nat.zero_le _) rfl
    have L5 := Lits.strs1 (w1.alloc (.cells #[] 38)) 9 #[.string ⟨#[97, 98, 99, 100]⟩, .string ⟨#[97, 98, 99]⟩, .string ⟨#[97, 98, 65, 66]⟩, .string ⟨#[97, 98, 99, 100, 101, 102, 65, 66, 67]⟩, .string ⟨#[97, 98, 99, 100, 49]⟩] 40 (by rfl)
    rw [World.size_alloc] at L5
    refine (of_c _ B r (w1.heap.size + 1) 5 (p + 1) (fun s => 1 ≤ s.size ∧ s.size ≤ 40) ((R1.keep ((Below.refl _ _).alloc (Nat.le_refl _) _)).keep ((Below.refl _ _).alloc (Nat.le_refl _) _)) (by decide) (by decide) (by omega) L5 (by omega)).mono ?_
    clear L5
    rintro e w2 ⟨from_, rfl, ⟨hf1, hf2⟩, R2, g2⟩
    have E1 := own_grown (own_keep E0 ((Below.refl _ _).alloc (Nat.le_refl _) (.cells #[.string ⟨#[97, 98, 99, 100]⟩, .string ⟨#[97, 98, 99]⟩, .string ⟨#[97, 98, 65, 66]⟩, .string ⟨#[97, 98, 99, 100, 101, 102, 65, 66, 67]⟩, .string ⟨#[97, 98, 99, 100, 49]⟩] 9))) g2 (.inl (fun e => by have := own_block_ge E0 r e; omega))
    have G2 := grown_trans g1 (grown_trans (grown_below (((Below.refl _ _).alloc (Nat.le_refl _) (.cells #[] 38)).alloc (by simp) (.cells #[.string ⟨#[97, 98, 99, 100]⟩, .string ⟨#[97, 98, 99]⟩, .string ⟨#[97, 98, 65, 66]⟩, .string ⟨#[97, 98, 99, 100, 101, 102, 65, 66, 67]⟩, .string ⟨#[97, 98, 99, 100, 49]⟩] 9)) (some r)) g2)
    have hs2 := G2.size
    clear E0 g1 g2 R1 HP
    go_wp2_with fail
    refine (num_c _ B r w2.heap.size 6 (p + 1 + 1) (fun x => 0 ≤ x ∧ x ≤ 5) (R2.keep ((Below.refl _ _).alloc (Nat.le_refl _) _)) (by decide) (by decide) (by omega) (Lits.ints w2 3 #[.int .i64 3, .int .i64 4, .int .i64 2, .int .i64 5, .int .i64 1, .int .i64 0] 5 (by rfl)) (by omega)).mono ?_
    rintro e w3 ⟨x, rfl, ⟨hx1, hx2⟩, R3, g3⟩
    obtain ⟨X, rfl⟩ := Int.eq_ofNat_of_zero_le hx1
    have E3 := own_grown (own_keep E1 ((Below.refl _ _).alloc (Nat.le_refl _) _)) g3 (.inl (fun e => by have := own_block_ge E1 r e; omega))
    have G3 := grown_trans G2 (grown_trans (grown_below ((Below.refl _ _).alloc (Nat.le_refl _) _) (some r)) g3)
    have hs3 := G3.size
    clear E1 G2 R2 g3
    go_wp2
    go_loopw [3, 4, 6, 7, 8, 22] (fun o s _ _ _ i wr => ∃ (j : Nat) (xs : List Mv) (t : ByteArray) (q : Int), j ≤ X ∧ i = .int .i64 j ∧ s = .string t ∧ t.size ≤ 64 * j ∧ xs.length ≤ j ∧ Hid (∀ m ∈ xs, m.1.size ≤ 64 ∧ m.2.size ≤ 64) ∧ wr.ownsRow w.heap.size 38 2 o xs.length (mcells xs) ∧ Rdr wr 116 B r q ∧ q ≤ p + 3 + 2 * (j : Int) ∧ w.grownBy wr (some r)) (fun _ _ _ _ _ i _ => X - (intOf i).toNat)
    case atStart => exact ⟨0, [], ⟨#[]⟩, _, by omega, rfl, rfl, Nat.zero_le _, Nat.zero_le _, (fun m hm => by cases hm), E3, R3, by omega, G3⟩
    case round =>
      obtain ⟨j, xs, t, q, hj, rfl, rfl, ht, hxl, hxs, ho, R, hq, G⟩ := hrel
      have hsr := G.size
      by_cases hlt2 : j < X
      · have i1 : (j : Int) < (X : Int) := by omega
        have HP4 := Lib.hid (pick_c wr B r from_.size q R (by omega) (by omega) (by omega))
        go_wp2_with fail
        refine HP4.out.mono ?_
        rintro e w4 ⟨k4, rfl, k40, k41, R4, g4⟩
        obtain ⟨K, rfl⟩ := Int.eq_ofNat_of_zero_le k40
        have ho4 := own_grown ho g4 (.inl (fun e => by have := own_block_ge ho r e; omega))
        have G4 := grown_trans G g4
        have hs4 := G4.size
        clear ho g4 G R HP4
        obtain ⟨c, hcc⟩ := one_of_size (s := from_.extract K (K + 1)) (by rw [ByteArray.size_extract]; omega)
        have HP5 := Lib.hid (pick_c w4 B r from_.size (q + 1) R4 (by omega) (by omega) (by omega))
        go_wp2_with fail
        refine HP5.out.mono ?_
        rintro e w5 ⟨k5, rfl, k50, k51, R5, g5⟩
        obtain ⟨J, rfl⟩ := Int.eq_ofNat_of_zero_le k50
        have ho5 := own_grown ho4 g5 (.inl (fun e => by have := own_block_ge ho4 r e; omega))
        have G5 := grown_trans G4 g5
        have hs5 := G5.size
        clear ho4 g5 G4 R4 HP5
        have hxi : (from_.extract J (J + 1)).size ≤ 64 := by rw [ByteArray.size_extract]; omega
        have HXA : Hid (∀ m ∈ xs ++ [(⟨#[c]⟩, from_.extract J (J + 1))], m.1.size ≤ 64 ∧ m.2.size ≤ 64) := fun m hm => by
          rcases List.mem_append.1 hm with h | h
          · exact hxs.out m h
          · have e : m = (⟨#[c]⟩, from_.extract J (J + 1)) := by simpa using h
            rw [e]
            exact ⟨by show 1 ≤ 64; omega, hxi⟩
        generalize hx2 : from_.extract J (J + 1) = x2 at *
        have hc1 : (ByteArray.mk #[c]).size = 1 := rfl
        rcases Bool.eq_false_or_eq_true (isP ⟨#[c]⟩) with hp | hp
        · by_cases hfi : indexByte t.data.toList c < 0
          · have t1 : decide (indexByte t.data.toList c < 0) = true := decide_eq_true hfi
            have hnw := two_new w5 (.string ⟨#[c]⟩) (.string x2) 38
            go_wp2_with (first | (go_at_call 62; refine (l1Place_c _ _).mono ?_; rintro e w' ⟨rfl, rfl⟩; rw [hp]) | (go_at_call 64; refine (l13Find_c t c _ (by omega)).mono ?_; rintro e w' ⟨rfl, rfl⟩) | (at_builtin; refine held ?_))
            unfold Held
            refine app_mv rfl (.tmp 46) (.tmp 54) rfl w.heap.size u3 xs (⟨#[c]⟩, x2) ⟨w5.heap.size, 0, none⟩ 1 (by rfl) (by rfl) (own_keep ho5 ((Below.refl _ _).alloc (Nat.le_refl _) _)) hnw (by omega) (by simp; omega) ?_
            intro v' w6 hown6 hgrow6
            have R6 := (R5.keep ((Below.refl _ _).alloc (Nat.le_refl _) (.cells #[.string ⟨#[c]⟩, .string x2] 38))).grow hgrow6 (fun g e => by have := own_block_ge ho5 g e; omega)
            have G6 := grown_over (grown_trans G5 (grown_below ((Below.refl _ _).alloc (Nat.le_refl _) (.cells #[.string ⟨#[c]⟩, .string x2] 38)) (some r))) hgrow6 (fun g e => own_block_ge ho5 g e)
            go_wp2
            go_roundw
            case rel => exact ⟨j + 1, xs ++ [(⟨#[c]⟩, x2)], t ++ ⟨#[c]⟩, _, by omega, by go_num, rfl, by rw [ByteArray.size_append]; omega, by simp; omega, HXA, hown6, R6, by omega, G6⟩
            case measure => simp [intOf] <;> omega
          · have t1 : decide (indexByte t.data.toList c < 0) = false := decide_eq_false hfi
            go_wp2_with (first | (go_at_call 62; refine (l1Place_c _ _).mono ?_; rintro e w' ⟨rfl, rfl⟩; rw [hp]) | (go_at_call 64; refine (l13Find_c t c _ (by omega)).mono ?_; rintro e w' ⟨rfl, rfl⟩))
            go_roundw
            case rel => exact ⟨j + 1, xs, t, _, by omega, by go_num, rfl, by omega, by omega, hxs, ho5, R5, by omega, G5⟩
            case measure => simp [intOf] <;> omega
        · have t1 : True := trivial
          go_wp2_with (first | (go_at_call 62; refine (l1Place_c _ _).mono ?_; rintro e w' ⟨rfl, rfl⟩; rw [hp]) | (go_at_call 64; refine (l13Find_c t c _ (by omega)).mono ?_; rintro e w' ⟨rfl, rfl⟩))
          go_roundw
          case rel => exact ⟨j + 1, xs, t, _, by omega, by go_num, rfl, by omega, by omega, hxs, ho5, R5, by omega, G5⟩
          case measure => simp [intOf] <;> omega
      · go_wp2
        go_ret
        exact ⟨_, xs, q, rfl, ho, ⟨by omega, hxs.out⟩, R, by omega, G⟩
end Go.Proofs.Ytmifmfljiaoeaab
namespace Go.Proofs.Ytmifmfljiaoeaab
open Go.RowKit Go.PM

set_option maxRecDepth 100000 in
set_option maxHeartbeats 1600000 in
theorem l1Some_c (w : World) (B r : Nat) (p : Int) (hr : Rdr w 116 B r p) (p1 : p ≤ 1000000) :
    Calls Try.prog 55 #[.pointer (some ⟨r, 0, none⟩)] w fun e w' => ∃ v xs p', e = .returned v ∧ w'.ownsRow w.heap.size 38 2 v xs.length (mcells xs) ∧ (xs.length ≤ 65 ∧ ∀ m ∈ xs, m.1.size ≤ 64 ∧ m.2.size ≤ 64) ∧ Rdr w' 116 B r p' ∧ p' ≤ p + 67 ∧ w.grownBy w' (some r) := by
  have hlt : r < w.heap.size := by obtain ⟨_, _, v, n, _, _, h⟩ := hr; exact h.lt
  have HD := Lib.hid (l1Draw_c w B r p hr (by omega))
  go_enter Try.func55, Try.ntmps55
  go_wp2_with fail
  refine HD.out.mono ?_
  rintro e w1 ⟨v, xs, p', rfl, ho, ⟨hl, hz⟩, R1, hp', g1⟩
  have HZ := Lib.hid hz
  have hs1 := g1.size
  clear HD hz
  have HP := Lib.hid (pick_c w1 B r 24 p' R1 (by omega) (by omega) (by omega))
  go_wp2_with fail
  refine HP.out.mono ?_
  rintro e w2 ⟨k, rfl, k0, k1, R2, g2⟩
  have ho2 := own_grown ho g2 (.inl (fun e => by have := own_block_ge ho r e; omega))
  have G2 := grown_trans g1 g2
  have hs2 := G2.size
  clear HP ho g1 g2 R1
  by_cases h0 : k = 0
  · subst h0
    go_wp2_with fail
    refine (of_c _ B r w2.heap.size 5 (p' + 1) (fun s => s.size ≤ 40) (R2.keep ((Below.refl _ _).alloc (Nat.le_refl _) _)) (by decide) (by decide) (by omega) (Lits.strs _ _ _ 40 (by rfl)) (by omega)).mono ?_
    rintro e w3 ⟨s1, rfl, hz1, R3, g3⟩
    have ho3 := own_grown (own_keep ho2 ((Below.refl _ _).alloc (Nat.le_refl _) _)) g3 (.inl (fun e => by have := own_block_ge ho2 r e; omega))
    have G3 := grown_trans G2 (grown_trans (grown_below ((Below.refl _ _).alloc (Nat.le_refl _) _) (some r)) g3)
    have hs3 := G3.size
    clear ho2 G2 R2 g3
    go_wp2_with fail
    refine (of_c _ B r w3.heap.size 5 (p' + 1 + 1) (fun s => s.size ≤ 40) (R3.keep ((Below.refl _ _).alloc (Nat.le_refl _) _)) (by decide) (by decide) (by omega) (Lits.strs _ _ _ 40 (by rfl)) (by omega)).mono ?_
    rintro e w4 ⟨s2, rfl, hz2, R4, g4⟩
    have ho4 := own_grown (own_keep ho3 ((Below.refl _ _).alloc (Nat.le_refl _) _)) g4 (.inl (fun e => by have := own_block_ge ho3 r e; omega))
    have G4 := grown_trans G3 (grown_trans (grown_below ((Below.refl _ _).alloc (Nat.le_refl _) _) (some r)) g4)
    have hs4 := G4.size
    clear ho3 G3 R3 g4
    have HXA : Hid (∀ m ∈ xs ++ [(s1, s2)], m.1.size ≤ 64 ∧ m.2.size ≤ 64) := fun m hm => by
      rcases List.mem_append.1 hm with h | h
      · exact HZ.out m h
      · have e : m = (s1, s2) := by simpa using h
        rw [e]
        exact ⟨by show s1.size ≤ 64; omega, by show s2.size ≤ 64; omega⟩
    have hnw := two_new w4 (.string s1) (.string s2) 38
    go_wp2_with (at_builtin; refine held ?_)
    unfold Held
    refine app_mv rfl (.tmp 9) (.tmp 17) rfl w.heap.size v xs (s1, s2) ⟨w4.heap.size, 0, none⟩ 1 (by rfl) (by rfl) (own_keep ho4 ((Below.refl _ _).alloc (Nat.le_refl _) _)) hnw (by omega) (by simp; omega) ?_
    intro v' w6 hown6 hgrow6
    have R6 := (R4.keep ((Below.refl _ _).alloc (Nat.le_refl _) (.cells #[.string s1, .string s2] 38))).grow hgrow6 (fun g e => by have := own_block_ge ho4 g e; omega)
    have G6 := grown_over (grown_trans G4 (grown_below ((Below.refl _ _).alloc (Nat.le_refl _) (.cells #[.string s1, .string s2] 38)) (some r))) hgrow6 (fun g e => own_block_ge ho4 g e)
    go_wp2
    go_ret
    exact ⟨_, xs ++ [(s1, s2)], _, rfl, hown6, ⟨by simp; omega, HXA.out⟩, R6, by omega, G6⟩
  · have t0 : (k == 0) = false := by simpa using h0
    go_wp2
    go_ret
    exact ⟨_, xs, _, rfl, ho2, ⟨by omega, HZ.out⟩, R2, by omega, G2⟩

end Go.Proofs.Ytmifmfljiaoeaab
namespace Go.Proofs.Ytmifmfljiaoeaab
open Go.RowKit Go.PM Go.PW

set_option maxRecDepth 100000 in
set_option maxHeartbeats 400000 in
theorem pmTexts_c (xs ys : List ByteArray) (v u : Value) (w : World) (hx : RdT w v xs) (hy : RdT w u ys) :
    Calls Try.prog 40 #[v, u] w fun e w' => e = .returned (.bool (decide (xs = ys))) ∧ Below w.heap.size w w' := by
  obtain ⟨A, cap, rfl, hn, hc, hcell⟩ := hx.open
  obtain ⟨A', cap', rfl, hn', hc', hcell'⟩ := hy.open
  obtain ⟨m, hm⟩ : ∃ m, m = min xs.length ys.length := ⟨_, rfl⟩
  have hmi : min (xs.length : Int) (ys.length : Int) = (m : Int) := by rw [hm]; omega
  have hm1 : m ≤ xs.length := by omega
  have hm2 : m ≤ ys.length := by omega
  have HM := Lib.hid hm
  clear hm
  go_enter Try.func40, Try.ntmps40
  go_wp2
  try rw [hmi]
  go_loopw [5, 11] (fun _ i wr => ∃ (k : Nat), k ≤ m ∧ i = .int .i64 k ∧ Hid (xs.take k = ys.take k) ∧ Below w.heap.size w wr) (fun _ i _ => m - (intOf i).toNat)
  case atStart => exact ⟨0, by omega, rfl, by show _ = _; simp, Below.refl _ _⟩
  case round =>
    obtain ⟨k, hk, rfl, ht, hb⟩ := hrel
    by_cases hlt : k < m
    · obtain ⟨b, off, rfl, hbl, hc1⟩ := hcell k (by omega)
      obtain ⟨b', off', rfl, hbl', hc1'⟩ := hcell' k (by omega)
      have hd1 := (hb.cell (p := ⟨b, off + k, none⟩) hbl).trans hc1
      have hd3 := (hb.cell (p := ⟨b', off' + k, none⟩) hbl').trans hc1'
      clear hc1 hcell hc1' hcell'
      have hlt1 : k < xs.length := by omega
      have hlt2 : k < ys.length := by omega
      have i0 : (0 : Int) ≤ (k : Int) := by omega
      have i1 : (k : Int) < xs.length := by omega
      have i2 : (k : Int) < ys.length := by omega
      generalize hx : xs[k] = xk at *
      generalize hy : ys[k] = yk at *
      have HXY := Lib.hid (And.intro hx hy)
      clear hx hy
      go_wp2
      have hx1 : ∀ x : Ext w.heap.size wr, x.val.cell? ⟨b, off + k, none⟩ = some (.string xk) := fun x => (x.property.cell (p := ⟨b, _, none⟩) hbl).trans hd1
      have hx3 : ∀ x : Ext w.heap.size wr, x.val.cell? ⟨b', off' + k, none⟩ = some (.string yk) := fun x => (x.property.cell (p := ⟨b', _, none⟩) hbl').trans hd3
      clear hd1 hd3
      refine wp_region_ext w.heap.size (by kernel_rfl) (by kernel_rfl) ?_
      repeat (go_big_quiet_step (fail))
      refine wpQuiet_nil ?_
      intro w2 hw'
      obtain ⟨xw, hxw⟩ := hw'
      have hb2 := xw.property
      rw [← hxw] at hb2
      clear hxw xw hx1 hx3
      go_wp2
      · have h : (!(xk.toList == yk.toList)) = true := by assumption
        go_ret
        refine ⟨?_, hb.trans hb2⟩
        have : ¬ xs = ys := by
          intro e; subst e
          rw [← HXY.out.1, ← HXY.out.2] at h
          simp at h
        simp [this]
      · have h : (!(xk.toList == yk.toList)) = false := by assumption
        go_roundw
        case rel =>
          refine ⟨k + 1, by omega, by go_num, ?_, hb.trans hb2⟩
          show _ = _
          rw [take_snoc xs k hlt1, take_snoc ys k hlt2, ht.out, HXY.out.1, HXY.out.2]
          rw [bne_str, decide_eq_false_iff_not, Classical.not_not] at h
          rw [h]
        case measure => simp [intOf]; omega
    · have hkm : k = m := by omega
      by_cases hl : xs.length = ys.length
      · have hl1 : ((xs.length : Int) == ys.length) = true := by simp [hl]
        have HE : Hid (xs = ys) := by
          show _ = _
          have h1 := ht.out
          have h2 := HM.out
          rw [List.take_of_length_le (by omega), List.take_of_length_le (by omega)] at h1
          exact h1
        clear hl hkm
        go_wp2
        go_ret
        exact ⟨by simp [HE.out], hb⟩
      · have hl1 : ((xs.length : Int) == ys.length) = false := by simp; omega
        have HE : Hid (¬ xs = ys) := fun e => hl (by rw [e])
        clear hl hkm
        go_wp2
        go_ret
        exact ⟨by simp [HE.out], hb⟩
end Go.Proofs.Ytmifmfljiaoeaab
namespace Go.Proofs.Ytmifmfljiaoeaab
open Go.RowKit Go.PM Go.ChangeShapes Go.WideShapes Go.Deep

theorem own : ownKnob Try.prog.godebug = none := by kernel_rfl
theorem laidOut : laidOutB Try.prog = true := by kernel_rfl

theorem exists_list {α : Type} (Q : Nat → α → Prop) : ∀ n, (∀ i, i < n → ∃ m, Q i m) → ∃ xs : List α, xs.length = n ∧ ∀ i (h : i < xs.length), Q i xs[i]
  | 0, _ => ⟨[], rfl, fun i h => absurd h (Nat.not_lt_zero _)⟩
  | n + 1, h => by
    obtain ⟨xs, hl, hx⟩ := exists_list Q n fun i hi => h i (by omega)
    obtain ⟨m, hm⟩ := h n (by omega)
    refine ⟨xs ++ [m], by simp [hl], fun i hi => ?_⟩
    by_cases h1 : i < xs.length
    · rw [List.getElem_append_left h1]; exact hx i h1
    · have h2 : i = xs.length := by simp at hi; omega
      subst h2
      rw [List.getElem_append_right (Nat.le_refl _)]
      simpa [hl] using hm

theorem rdM_mk {w : World} {ad : Addr} {cap : Nat} (xs : List Mv) (hc : xs.length ≤ cap) (hn : xs.length ≤ 9223372036854775807)
    (h : ∀ i (hi : i < xs.length), w.cell? (ad.add (i * 2)) = some (.string xs[i].1) ∧ w.cell? ((ad.add (i * 2)).add 1) = some (.string xs[i].2)) : RdM w (.slice (some ad) xs.length cap) xs := by
  refine ⟨some ad, cap, rfl, hc, hn, mcells_length xs, fun h0 => ?_⟩
  have h1 := (h 0 h0).1
  obtain ⟨b, off, spot⟩ := ad
  have hs : spot = none := by
    have := World.cell?_spot h1
    simpa [Addr.add] using this
  subst hs
  have hadd : ∀ o i, (Addr.mk b o none).add i = ⟨b, o + i, none⟩ := fun o i => by
    unfold Addr.add; split
    · next h => subst h; rfl
    · rfl
  refine ⟨b, off, rfl, ?_, fun j u hu => ?_⟩
  · rcases Nat.lt_or_ge b w.heap.size with hlt | hge
    · exact hlt
    · rw [hadd] at h1
      simp [World.cell?, Array.getElem?_eq_none hge] at h1
  · have hj : j < xs.length * 2 := by rw [← mcells_length]; exact (List.getElem?_eq_some_iff.1 hu).1
    have hk : j / 2 < xs.length := by omega
    have hm := mcells_at xs (j / 2) _ (List.getElem?_eq_getElem hk)
    have hh := h (j / 2) hk
    rw [hadd, hadd] at hh
    rcases Nat.mod_two_eq_zero_or_one j with h0 | h0
    · have e : j / 2 * 2 = j := by omega
      rw [e] at hm hh
      rw [hm.1] at hu
      rw [hh.1, hu]
    · have e : j / 2 * 2 + 1 = j := by omega
      rw [e] at hm
      rw [Nat.add_assoc, e] at hh
      rw [hm.2] at hu
      rw [hh.2, hu]

set_option maxRecDepth 100000 in
theorem open_moves {H : Type} {enc : TypeId × Value → H} {W : World} {base fuel : Nat} {spare : Nat → Bool} {held : Bool} {a : Option Addr} {n c : Nat} {x : DataW H × List MemPlace}
    (h : DataW.trod enc Try.prog W base spare held fuel 40 [.slice a n c] = some x) :
    ∃ xs : List Mv, RdM W (.slice a n c) xs ∧ ∀ m ∈ xs, m.1.size ≤ 9223372036854775807 ∧ m.2.size ≤ 9223372036854775807 := by
  rcases open_slice Try.underlying40 h with ⟨hcs, _⟩ | ⟨ad, len, cap, m, k, D, Pl, hcs, hb, hl, hm, hmm, hx, hi⟩
  · simp at hcs
    obtain ⟨rfl, rfl, rfl⟩ := hcs
    exact ⟨[], ⟨none, 0, rfl, by simp, by simp, rfl, by simp⟩, by simp⟩
  · simp at hcs
    obtain ⟨rfl, rfl, rfl⟩ := hcs
    have hC : Try.prog.cellsOf 86 = 2 := by kernel_rfl
    have hml : n ≤ m := by rw [hmm]; split <;> omega
    have hM : maxLen = 9223372036854775807 := rfl
    obtain ⟨xs, hxl, hxs⟩ := exists_list (fun i (m : Mv) => W.cell? (ad.add (i * 2)) = some (.string m.1) ∧ W.cell? ((ad.add (i * 2)).add 1) = some (.string m.2) ∧ m.1.size ≤ 9223372036854775807 ∧ m.2.size ≤ 9223372036854775807) n (fun i hin => by
      obtain ⟨cs', hc', ht⟩ := hi i (by omega)
      rw [hC] at hc'
      obtain ⟨y0, y1, k', _, hlen, h0, h1⟩ := trod_struct2 Try.underlying86 ht
      obtain ⟨_, hcl, hat⟩ := World.cells?_some hc'
      rw [hC] at hlen
      match cs', hlen with
      | [c0, c1], _ =>
        have e0 : Try.prog.cellsOf 9 = 1 := by kernel_rfl
        simp only [e0] at h0 h1
        simp at h0 h1
        obtain ⟨s, hs, _, hs1⟩ := DataW.trod_string Try.underlying9 h0
        obtain ⟨t, hta, _, ht1⟩ := DataW.trod_string Try.underlying9 h1
        simp at hs hta
        subst hs hta
        refine ⟨(s, t), ?_, ?_, hM ▸ hs1, hM ▸ ht1⟩
        · have := hat 0 (by omega)
          simpa [Addr.add] using this
        · have := hat 1 (by omega)
          simpa using this)
    subst hxl
    refine ⟨xs, rdM_mk xs hl (by omega) fun i hi => ⟨(hxs i hi).1, (hxs i hi).2.1⟩, fun m hm => ?_⟩
    obtain ⟨i, hi, rfl⟩ := List.getElem_of_mem hm
    exact (hxs i hi).2.2
end Go.Proofs.Ytmifmfljiaoeaab
namespace Go.Proofs.Ytmifmfljiaoeaab
open Go.RowKit Go.PM
open Go.ChangeShapes Go.WideShapes Go.Deep in
set_option maxRecDepth 100000 in
theorem open_bytes {H : Type} {enc : TypeId × Value → H} {W : World} {base fuel : Nat} {spare : Nat → Bool} {held : Bool} {a : Option Addr} {n c : Nat} {x : DataW H × List MemPlace}
    (h : DataW.trod enc Try.prog W base spare held fuel 22 [.slice a n c] = some x) : RdB W W.heap.size (.slice a n c) n := by
  rcases open_slice Try.underlying22 h with ⟨hcs, _⟩ | ⟨ad, len, cap, m, k, D, Pl, hcs, hb, hl, hm, hmm, hx, hi⟩
  · simp at hcs
    obtain ⟨rfl, rfl, rfl⟩ := hcs
    exact ⟨none, 0, rfl, by omega, by omega, fun k hk => absurd hk (Nat.not_lt_zero k)⟩
  · simp at hcs
    obtain ⟨rfl, rfl, rfl⟩ := hcs
    have hC : Try.prog.cellsOf 5 = 1 := by kernel_rfl
    have hml : n ≤ m := by rw [hmm]; split <;> omega
    have hM : maxLen = 9223372036854775807 := rfl
    have hcell : ∀ i, i < n → ∃ kk, W.cell? (ad.add i) = some (.int .u8 kk) ∧ 0 ≤ kk ∧ kk ≤ 255 := fun i hin => by
      obtain ⟨cs', hc', ht⟩ := hi i (by omega)
      rw [hC] at hc'
      obtain ⟨kk, hk, _, hwf⟩ := DataW.trod_int Try.underlying5 ht
      subst hk
      obtain ⟨_, hcl, hat⟩ := World.cells?_some hc'
      have h1 := hat 0 (by omega)
      refine ⟨kk, by simpa [Addr.add] using h1, ?_⟩
      simpa [Lit.wf, IntKind.min, IntKind.max, IntKind.signed, IntKind.bits] using hwf
    clear hi hx h
    refine ⟨some ad, c, rfl, by omega, by omega, fun i hin => ?_⟩
    obtain ⟨b, off, spot⟩ := ad
    have hs : spot = none := by
      obtain ⟨_, h0, _⟩ := hcell 0 (by omega)
      have := World.cell?_spot h0
      simpa [Addr.add] using this
    subst hs
    obtain ⟨kk, h1, hw1, hw2⟩ := hcell i hin
    have hadd : (Addr.mk b off none).add i = ⟨b, off + i, none⟩ := by
      unfold Addr.add; split
      · next h => subst h; rfl
      · rfl
    rw [hadd] at h1
    have hb : b < W.heap.size := by
      rcases Nat.lt_or_ge b W.heap.size with hlt | hge
      · exact hlt
      · simp [World.cell?, Array.getElem?_eq_none hge] at h1
    exact ⟨b, off, kk, rfl, hb, hb, h1, hw1, by omega⟩
end Go.Proofs.Ytmifmfljiaoeaab
namespace Go.PM
open Go.RowKit
/-- one of a text's letters is the given text -/
def pmH (s c : ByteArray) : Bool := (List.range s.size).any fun i => decide (s.extract i (i + 1) = c)
def pmK (s c : ByteArray) (k : Nat) : Bool := (List.range k).any fun i => decide (s.extract i (i + 1) = c)
theorem pmK_succ (s c : ByteArray) (k : Nat) : pmK s c (k + 1) = (pmK s c k || decide (s.extract k (k + 1) = c)) := by
  simp [pmK, List.range_succ]
theorem pmK_yes {s c : ByteArray} (k : Nat) (hk : k < s.size) (h : s.extract k (k + 1) = c) : pmH s c = true := by
  rw [pmH, List.any_eq_true]
  exact ⟨k, by simpa using hk, decide_eq_true h⟩
theorem extract_at (s : ByteArray) (i : Nat) (h : i < s.size) : s.extract i (i + 1) = ⟨#[s[i]]⟩ := by
  apply ByteArray.ext
  apply Array.ext
  · simp only [ByteArray.data_extract, Array.size_extract]
    have : s.data.size = s.size := rfl
    simp; omega
  · intro j h1 h2
    have hj : j = 0 := by simpa using h2
    subst hj
    simp
    rfl
theorem pmH_one (s : ByteArray) (c : UInt8) : pmH s ⟨#[c]⟩ = decide (c ∈ s.data.toList) := by
  rw [pmH, Bool.eq_iff_iff, List.any_eq_true, decide_eq_true_eq]
  constructor
  · rintro ⟨i, hi, h⟩
    have hi' : i < s.size := by simpa using hi
    have h' := of_decide_eq_true h
    rw [extract_at s i hi'] at h'
    have : s[i] = c := by simpa using h'
    rw [← this]
    exact List.getElem_mem (l := s.data.toList) (n := i) (by simpa using hi')
  · intro h
    obtain ⟨i, hi, e⟩ := List.getElem_of_mem h
    have hi' : i < s.size := by simpa using hi
    refine ⟨i, by simpa using hi', decide_eq_true ?_⟩
    rw [extract_at s i hi', ← e]
    rfl
theorem place_inj : ∀ p < 9, ∀ q < 9, placesL.getD q 0 = placesL.getD p 0 → q = p := by decide +kernel
theorem nm_byte (p : Nat) (hp : p < 9) : nm p = ⟨#[placesL.getD p 0]⟩ := by
  match p, hp with
  | 0, _ | 1, _ | 2, _ | 3, _ | 4, _ | 5, _ | 6, _ | 7, _ | 8, _ => decide +kernel
theorem pmH_names (h : Nat → Bool) (p : Nat) (hp : p < 9) : pmH (namesW h) (nm p) = h p := by
  rw [nm_byte p hp, pmH_one, Bool.eq_iff_iff, decide_eq_true_eq]
  unfold namesW namesL
  simp only [List.mem_map, List.mem_filter, List.mem_range]
  constructor
  · rintro ⟨q, ⟨hq, hh⟩, e⟩
    rw [place_inj p hp q hq e] at hh; exact hh
  · intro hh; exact ⟨p, ⟨hp, hh⟩, rfl⟩
theorem srcM_isS {xs : List Mv} (h : MV xs) {a : ByteArray} (ha : isP a = true) : isS (srcM xs a) = true := by
  unfold srcM
  cases hf : xs.find? (fun m => decide (m.1 = a)) with
  | none => show isS a = true; unfold isS; rw [ha]; rfl
  | some m =>
    have hm := h.1 m (List.mem_of_find?_eq_some hf)
    unfold mok at hm; rw [Bool.and_eq_true] at hm
    exact hm.2
theorem nm_of_isP {a : ByteArray} (h : isP a = true) : ∃ p, p < 9 ∧ a = nm p := by
  obtain ⟨c, rfl⟩ := one_of_size (isP_size h)
  have h2 : c ∈ placesL := by simpa [isP] using h
  simp only [placesL, List.mem_cons, List.not_mem_nil, or_false] at h2
  rcases h2 with rfl | rfl | rfl | rfl | rfl | rfl | rfl | rfl | rfl
  · exact ⟨0, by decide, by decide +kernel⟩
  · exact ⟨1, by decide, by decide +kernel⟩
  · exact ⟨2, by decide, by decide +kernel⟩
  · exact ⟨3, by decide, by decide +kernel⟩
  · exact ⟨4, by decide, by decide +kernel⟩
  · exact ⟨5, by decide, by decide +kernel⟩
  · exact ⟨6, by decide, by decide +kernel⟩
  · exact ⟨7, by decide, by decide +kernel⟩
  · exact ⟨8, by decide, by decide +kernel⟩
end Go.PM
namespace Go.Proofs.Ytmifmfljiaoeaab
open Go.RowKit Go.PM
theorem pmH_rdrs {xs : List Mv} (h : MV xs) (a : ByteArray) (p : Nat) (hp : p < 9) : pmH (rdrs xs a) (nm p) = (decide (nm p ≠ a) && decide (srcM xs (nm p) = a)) := by
  rw [rdrs, ← rsH_rdH h, pmH_names _ p hp]; rfl
theorem pmH_source {xs : List Mv} (h : MV xs) {a : ByteArray} (ha : isP a = true) (hne : ¬ srcM xs a = a) : pmH (rdrs xs (srcM xs a)) a = true := by
  obtain ⟨p, hp, rfl⟩ := nm_of_isP ha
  rw [pmH_rdrs h _ p hp]
  have h1 : nm p ≠ srcM xs (nm p) := fun e => hne e.symm
  simp [h1]
theorem rdrs_size (xs : List Mv) (a : ByteArray) : (rdrs xs a).size ≤ 9 := namesL_size _ 9

set_option maxHeartbeats 800000 in
theorem pmHas_c (s c : ByteArray) (w : World) (hs : s.size ≤ 1000) :
    Calls Try.prog 41 #[.string s, .string c] w fun e w' => e = .returned (.bool (pmH s c)) ∧ Below w.heap.size w w' := by
  have HF : Hid (pmK s c s.size = pmH s c) := rfl
  go_enter Try.func41, Try.ntmps41
  go_wp2
  go_loopw [5, 8] (fun _ i wr => ∃ (k : Nat), k ≤ s.size ∧ i = .int .i64 k ∧ Hid (pmK s c k = false) ∧ Below w.heap.size w wr) (fun _ i _ => s.size - (intOf i).toNat)
  case atStart => exact ⟨0, by omega, rfl, rfl, Below.refl _ _⟩
  case round =>
    obtain ⟨k, hk, rfl, hp, hb⟩ := hrel
    have hbs := hb.size
    by_cases hlt : k < s.size
    · have i1 : (k : Int) < (s.size : Int) := by omega
      have HS := Lib.hid (pmK_succ s c k)
      have HY := Lib.hid (fun h => pmK_yes (s := s) (c := c) k hlt h)
      have hb2 := beq_str (s.extract k (k + 1)) c
      by_cases he : s.extract k (k + 1) = c
      · have H1 := Lib.hid (HY.out he)
        have q : ((s.extract k (k + 1)).toList == c.toList) = true := by rw [hb2, decide_eq_true he]
        clear hb2 he
        go_wp2
        go_ret
        exact ⟨by rw [H1.out]; rfl, hb⟩
      · have H1 : Hid (pmK s c (k + 1) = false) := by show _ = _; rw [HS.out, hp.out, decide_eq_false he]; rfl
        have q : ((s.extract k (k + 1)).toList == c.toList) = false := by rw [hb2, decide_eq_false he]
        clear hb2 he
        go_wp2
        go_roundw
        case rel => exact ⟨k + 1, by omega, by go_num, H1, hb⟩
        case measure => simp [intOf] <;> omega
    · have hk' : k = s.size := by omega
      have H1 : Hid (pmH s c = false) := by show _ = _; rw [← HF.out, ← hk']; exact hp.out
      clear hk'
      go_wp2
      go_ret
      exact ⟨by rw [H1.out]; rfl, hb⟩
end Go.Proofs.Ytmifmfljiaoeaab
namespace Go.PO
open Go.PM Go.RowKit Go.PW
theorem flatten_one {l : List (List Nat)} (h : l.flatten.Nodup) {a b : List Nat} (ha : a ∈ l) (hb : b ∈ l) {y : Nat} (hya : y ∈ a) (hyb : y ∈ b) : a = b := by
  induction l with
  | nil => cases ha
  | cons c l ih =>
    rw [List.flatten_cons, List.nodup_append] at h
    obtain ⟨_, h2, h3⟩ := h
    rw [List.mem_cons] at ha hb
    rcases ha with rfl | ha
    · rcases hb with rfl | hb
      · rfl
      · exact absurd rfl (h3 y hya y (List.mem_flatten.2 ⟨b, hb, hyb⟩))
    · rcases hb with rfl | hb
      · exact absurd rfl (h3 y hyb y (List.mem_flatten.2 ⟨a, ha, hya⟩))
      · exact ih h2 ha hb
theorem flatten_nd {l : List (List Nat)} (h : l.flatten.Nodup) (hne : ∀ a ∈ l, a ≠ []) : l.Nodup := by
  induction l with
  | nil => exact List.nodup_nil
  | cons c l ih =>
    rw [List.flatten_cons, List.nodup_append] at h
    obtain ⟨_, h2, h3⟩ := h
    refine List.nodup_cons.2 ⟨fun hc => ?_, ih h2 fun a ha => hne a (by simp [ha])⟩
    cases c with
    | nil => exact hne [] (by simp) rfl
    | cons y c => exact h3 y (by simp) y (List.mem_flatten.2 ⟨_, hc, by simp⟩) rfl
variable {f : Nat → ByteArray}
/-- a wheel has at most one ring -/
theorem wheel_ring (hf : SV f) {r1 r2 : List Nat} (h1 : r1 ∈ ringsF (nxT f) 9) (h2 : r2 ∈ ringsF (nxT f) 9) {a1 a2 : Nat} (ha1 : a1 ∈ r1) (ha2 : a2 ∈ r2) (e : hdF f 9 a1 = hdF f 9 a2) : r1 = r2 := by
  have hn := nice hf
  obtain ⟨s1, hs1, e1, hr1, _⟩ := ringsF_mem2 9 r1 h1
  obtain ⟨s2, hs2, e2, hr2, _⟩ := ringsF_mem2 9 r2 h2
  have key := hd_sound (f := f) (fun p => ∃ k y, orb (nxT f) p k = some y ∧ y ∈ r1) 9 (fun p hp h9 => by
    by_cases hst : sx f p = p
    · rw [hst]
    · have hnx := nxT_some hp hst
      constructor
      · rintro ⟨k, y, hk, hy⟩
        cases k with
        | zero =>
          simp only [orb, Option.some.injEq] at hk
          subst hk
          subst e1
          exact ⟨0, sx f p, rfl, ring_next hn (by omega) hr1 hy hnx⟩
        | succ k =>
          rw [show k + 1 = 1 + k by omega, orb_add] at hk
          have h1 : orb (nxT f) p 1 = some (sx f p) := by simp only [orb, Option.bind_some]; exact hnx
          rw [h1] at hk
          exact ⟨k, y, hk, hy⟩
      · rintro ⟨k, y, hk, hy⟩
        refine ⟨1 + k, y, ?_, hy⟩
        have h1 : orb (nxT f) p 1 = some (sx f p) := by simp only [orb, Option.bind_some]; exact hnx
        rw [orb_add, h1]; exact hk) a1 a2 e
  obtain ⟨k, y, hk, hy⟩ := key.1 ⟨0, a1, rfl, ha1⟩
  have hy2 : y ∈ r2 := by
    subst e2
    exact ring_orb hn (by omega) hr2 ha2 k y hk
  exact flatten_one (ringsF_nodup hn 9 (Nat.le_refl _)) h1 h2 hy hy2
theorem ring_first (hf : SV f) {r : List Nat} (h : r ∈ ringsF (nxT f) 9) : ∃ a l, r = a :: l ∧ a < 9 ∧ 2 ≤ r.length ∧ r.length ≤ 19 ∧ (∀ x ∈ r, x < 9) := by
  have hq := ringQ f hf h
  obtain ⟨s, hs, e, _⟩ := ringsF_mem2 9 r h
  have hl := (way_rho (nice hf) (show s < 19 by omega)).len
  rw [← e] at hl
  have hall : ∀ x ∈ r, x < 9 := fun x hx => by
    obtain ⟨i, hi⟩ := List.getElem?_of_mem hx
    have hil := (List.getElem?_eq_some_iff.1 hi).1
    rw [List.getElem?_eq_getElem hil] at hi
    rw [← Option.some.inj hi]; exact hq.low i hil
  have h2 := hq.two
  cases r with
  | nil => simp at h2
  | cons a l => exact ⟨a, l, rfl, hall a (by simp), h2, hl, hall⟩
theorem rings_nd (hf : SV f) : (ringsF (nxT f) 9).Nodup :=
  flatten_nd (ringsF_nodup (nice hf) 9 (Nat.le_refl _)) fun a ha e => by
    obtain ⟨x, l, h, _⟩ := ring_first hf ha
    rw [e] at h; cases h
/-- whether the first place of a ring is in a wheel -/
def inW (w r : List Nat) : Bool := match r with
  | a :: _ => decide (a ∈ w)
  | [] => false
def cntW (w : List Nat) (rs : List (List Nat)) (k : Nat) : Nat := ((rs.take k).filter (inW w)).length
theorem cntW_zero (w : List Nat) (rs : List (List Nat)) : cntW w rs 0 = 0 := rfl
theorem cntW_succ (w : List Nat) (rs : List (List Nat)) (k : Nat) (hk : k < rs.length) : cntW w rs (k + 1) = if inW w rs[k] then cntW w rs k + 1 else cntW w rs k := by
  unfold cntW
  rw [List.take_succ_eq_append_getElem hk, List.filter_append]
  by_cases h : inW w rs[k] = true <;> simp [h]
theorem cntW_le (w : List Nat) (rs : List (List Nat)) (k : Nat) : cntW w rs k ≤ k := by
  unfold cntW
  have h1 := List.length_filter_le (inW w) (rs.take k)
  rw [List.length_take] at h1
  omega
theorem filter_one {α : Type _} {p : α → Bool} : ∀ {l : List α}, l.Nodup → (∀ a ∈ l, ∀ b ∈ l, p a = true → p b = true → a = b) → (l.filter p).length ≤ 1
  | [], _, _ => by simp
  | a :: l, hn, h => by
    rw [List.nodup_cons] at hn
    have ih := filter_one hn.2 fun x hx y hy => h x (by simp [hx]) y (by simp [hy])
    by_cases ha : p a = true
    · have : l.filter p = [] := by
        rw [List.filter_eq_nil_iff]
        intro b hb hpb
        have := h a (by simp) b (by simp [hb]) ha hpb
        subst this; exact hn.1 hb
      simp [ha, this]
    · rw [List.filter_cons, if_neg ha]; exact ih
structure WheelR (f : Nat → ByteArray) (w : List Nat) : Prop where
  two : 2 ≤ w.length
  le : w.length ≤ 9
  low : ∀ a ∈ w, a < 9
  same : ∀ a ∈ w, wheelL f a = w
  one : cntW w (ringsF (nxT f) 9) (ringsF (nxT f) 9).length ≤ 1
theorem wheelR (hf : SV f) {w : List Nat} (h : w ∈ wheelsF f 9) : WheelR f w := by
  obtain ⟨s, hs, rfl⟩ := List.mem_map.1 h
  obtain ⟨hs1, hs2⟩ := List.mem_filter.1 hs
  unfold firstW at hs2
  rw [decide_eq_true_eq] at hs2
  refine ⟨hs2.1, wheelL_len s, wheelL_lt, fun a ha => wheelL_congr (wheelL_mem.1 ha).2, ?_⟩
  unfold cntW
  rw [List.take_of_length_le (Nat.le_refl _)]
  refine filter_one (rings_nd hf) fun a ha b hb pa pb => ?_
  obtain ⟨x, l, rfl, _⟩ := ring_first hf ha
  obtain ⟨y, m, rfl, _⟩ := ring_first hf hb
  have px : x ∈ wheelL f s := by simpa [inW] using pa
  have py : y ∈ wheelL f s := by simpa [inW] using pb
  exact wheel_ring hf ha hb (List.mem_cons_self ..) (List.mem_cons_self ..) ((wheelL_mem.1 px).2.trans (wheelL_mem.1 py).2.symm)
theorem rings_le (hf : SV f) : (ringsF (nxT f) 9).length ≤ (wheelsF f 9).length := by
  have hmap : ((ringsF (nxT f) 9).map fun r => wheelL f (r.headD 0)).Nodup := by
    have key : ∀ l : List (List Nat), l.Nodup → (∀ a ∈ l, a ∈ ringsF (nxT f) 9) → (l.map fun r => wheelL f (r.headD 0)).Nodup := by
      intro l
      induction l with
      | nil => intro _ _; simp
      | cons a l ih =>
        intro h1 h2
        rw [List.nodup_cons] at h1
        rw [List.map_cons, List.nodup_cons]
        refine ⟨fun hm => ?_, ih h1.2 fun b hb => h2 b (by simp [hb])⟩
        obtain ⟨b, hb, e⟩ := List.mem_map.1 hm
        obtain ⟨x, la, rfl, hx9, _⟩ := ring_first hf (h2 a (by simp))
        obtain ⟨y, lb, rfl, hy9, _⟩ := ring_first hf (h2 b (by simp [hb]))
        have hxy : x ∈ wheelL f y := by
          have e : wheelL f y = wheelL f x := e
          rw [e]; exact wheelL_self hx9
        have hr1 := h2 (x :: la) (by simp)
        have hr2 := h2 (y :: lb) (by simp [hb])
        have := wheel_ring hf hr1 hr2 (List.mem_cons_self ..) (List.mem_cons_self ..) (wheelL_mem.1 hxy).2
        exact h1.1 (this ▸ hb)
    exact key _ (rings_nd hf) fun a ha => ha
  have := Go.PM.nodup_le ((ringsF (nxT f) 9).map fun r => wheelL f (r.headD 0)) (wheelsF f 9) hmap fun w hw => by
    obtain ⟨r, hr, rfl⟩ := List.mem_map.1 hw
    obtain ⟨a, l, rfl, ha9, h2, _, hall⟩ := ring_first hf hr
    have hq := ringQ f hf hr
    have hnx := hq.next 0 (by simp)
    show wheelL f a ∈ wheelsF f 9
    obtain ⟨h, hh, hle, hm⟩ := wheelL_head (f := f) ha9
    have hmem := wheelL_mem.1 hm
    have hwe := wheelL_congr (f := f) hmem.2
    refine List.mem_map.2 ⟨h, List.mem_filter.2 ⟨by simpa using hmem.1, ?_⟩, hwe⟩
    unfold firstW
    rw [hwe, decide_eq_true_eq]
    refine ⟨?_, hh⟩
    -- a and its source are both in the wheel
    have hsx : sx f a ∈ (a :: l) := by
      have e0 : sx f (a :: l)[0] = sx f a := rfl
      rw [← e0, hnx]; exact List.getElem_mem _
    have hs9 := hall _ hsx
    have hne : sx f a ≠ a := by
      intro e
      have h1 : (a :: l)[(0 + 1) % (a :: l).length]'(Nat.mod_lt _ (by simp)) = (a :: l)[0] := by rw [← hnx]; exact e
      have h3 := (List.getElem_inj hq.nodup).1 h1
      rw [Nat.zero_add, Nat.mod_eq_of_lt (by omega)] at h3
      omega
    have m1 : a ∈ wheelL f a := wheelL_self ha9
    have m2 : sx f a ∈ wheelL f a := wheelL_mem.2 ⟨hs9, (hd_edge (f := f) 9 a ha9 hs9).symm⟩
    have h5 := Go.PM.nodup_le [a, sx f a] (wheelL f a) (by simp [Ne.symm hne]) fun x hx => by
      rw [List.mem_cons, List.mem_singleton] at hx
      rcases hx with rfl | rfl
      · exact m1
      · exact m2
    simp at h5
    omega
  rwa [List.length_map] at this
end Go.PO
namespace Go.PO
open Go.PM Go.RowKit Go.PW
theorem own_rt {w : World} {base n : Nat} {e : TypeId} {v : Value} {ts : List ByteArray} (h : w.ownsRow base e 1 v n (tcells ts)) (hn : n = ts.length) : ∃ A cap, v = .slice A ts.length cap ∧ RdT w (.slice A ts.length cap) ts := by
  subst hn
  have hr : RdT w v ts := Rd.of_own h
  obtain ⟨A, cap, rfl, _⟩ := hr.open
  exact ⟨A, cap, rfl, hr⟩
theorem namesW_at (h : Nat → Bool) : ∀ i, i < (namesW h).size → ∃ p, p < 9 ∧ h p = true ∧ (namesW h).extract i (i + 1) = nm p := by
  intro i hi
  have hl : (namesW h).data.toList = namesL h (List.range 9) := by simp [namesW]
  have hi2 : i < ((List.range 9).filter h).length := by
    have : (namesW h).size = ((List.range 9).filter h).length := by
      rw [← size_data, hl]; simp [namesL]
    omega
  have hm := List.getElem_mem hi2
  obtain ⟨h1, h2⟩ := List.mem_filter.1 hm
  refine ⟨((List.range 9).filter h)[i], by simpa using h1, h2, ?_⟩
  apply ByteArray.ext
  rw [ByteArray.data_extract]
  apply Array.ext'
  rw [Array.toList_extract, hl]
  unfold namesL nm
  rw [List.extract_eq_take_drop]
  rw [show i + 1 - i = 1 by omega]
  rw [List.drop_eq_getElem_cons (by simpa using hi2)]
  simp
theorem txt_at {l : List Nat} {i : Nat} (hi : i < l.length) : (txt l).extract i (i + 1) = sn l[i] := by
  apply ByteArray.ext
  rw [ByteArray.data_extract]
  apply Array.ext'
  rw [Array.toList_extract, txt_list, List.extract_eq_take_drop, show i + 1 - i = 1 by omega, List.drop_eq_getElem_cons (by simpa using hi)]
  simp [sn]
theorem inW_pmH {w r : List Nat} (hw : ∀ a ∈ w, a < 9) {a : Nat} {l : List Nat} (hr : r = a :: l) (ha : a < 9) : pmH (txt w) ((txt r).extract 0 1) = inW w r := by
  subst hr
  have e : (txt (a :: l)).extract 0 1 = sn a := txt_at (l := a :: l) (i := 0) (by simp)
  rw [e]
  show pmH (txt w) ⟨#[ch a]⟩ = decide (a ∈ w)
  rw [pmH_one, decide_eq_decide]
  exact txt_mem (fun x hx => by have := hw x hx; omega) (by omega)
end Go.PO
namespace Go.Proofs.Ytmifmfljiaoeaab
open Go.RowKit Go.PM Go.PO Go.PW
theorem imWheelsOf_r (xs : List Mv) (v : Value) (b : Bool) (hb : mvalid xs = b) (w : World) (hx : RdM w v xs) :
    Calls Try.prog 35 #[v] w fun e w' => ∃ A cap, e = .returned (.tuple #[.slice A (wheelsB xs).length cap, .bool b]) ∧ RdT w' (.slice A (wheelsB xs).length cap) (wheelsB xs) ∧ Below w.heap.size w w' :=
  (imWheelsOf_c xs v w hx).mono fun e w' ⟨v', he, ho, hbl⟩ => by
    obtain ⟨A, cap, hv, hr⟩ := own_rt ho rfl
    exact ⟨A, cap, by rw [he, hv, hb], hr, hbl⟩
theorem spWheelsOf_r (xs : List Mv) (v : Value) (b : Bool) (hb : mvalid xs = b) (w : World) (hx : RdM w v xs) (hz : ∀ m ∈ xs, m.1.size ≤ 9223372036854775807 ∧ m.2.size ≤ 9223372036854775807) (hn : xs.length ≤ 1048576) :
    Calls Try.prog 36 #[v] w fun e w' => ∃ A cap, e = .returned (.tuple #[.slice A (wheelsB xs).length cap, .bool b]) ∧ RdT w' (.slice A (wheelsB xs).length cap) (wheelsB xs) ∧ Below w.heap.size w w' :=
  (spWheelsOf_c xs v w hx hz hn).mono fun e w' ⟨v', he, ho, hbl⟩ => by
    obtain ⟨A, cap, hv, hr⟩ := own_rt ho rfl
    exact ⟨A, cap, by rw [he, hv, hb], hr, hbl⟩
theorem imRingsOf_r (xs : List Mv) (v : Value) (b : Bool) (hb : mvalid xs = b) (w : World) (hx : RdM w v xs) :
    Calls Try.prog 39 #[v] w fun e w' => ∃ A cap, e = .returned (.tuple #[.slice A (ringsB xs).length cap, .bool b]) ∧ RdT w' (.slice A (ringsB xs).length cap) (ringsB xs) ∧ Below w.heap.size w w' :=
  (imRingsOf_c xs v w hx).mono fun e w' ⟨v', he, ho, hbl⟩ => by
    obtain ⟨A, cap, hv, hr⟩ := own_rt ho rfl
    exact ⟨A, cap, by rw [he, hv, hb], hr, hbl⟩
theorem pmTexts_y (xs : List ByteArray) (v u : Value) (w : World) (hx : RdT w v xs) (hy : RdT w u xs) :
    Calls Try.prog 40 #[v, u] w fun e w' => e = .returned (.bool true) ∧ Below w.heap.size w w' := by
  have := pmTexts_c xs xs v u w hx hy
  rwa [show decide (xs = xs) = true by simp] at this
set_option maxHeartbeats 800000 in
theorem drawWheelsOf_c (w : World) (v : Value) (n : Nat) (hv : RdB w w.heap.size v n) :
    Calls Try.prog 34 #[v] w fun e w' => ∃ u xs, e = .returned u ∧ RdM w' u xs ∧ (xs.length ≤ 65 ∧ ∀ m ∈ xs, m.1.size ≤ 64 ∧ m.2.size ≤ 64) ∧ Below w.heap.size w w' := by
  have HO := Lib.hid (l13Open_c w v n hv)
  go_enter Try.func34, Try.ntmps34
  go_wp2_with fail
  refine HO.out.mono ?_
  rintro e w1 ⟨r, rfl, R1, b1⟩
  have hs1 := b1.size
  have hB := R1.1
  have HS := Lib.hid (l1Some_c w1 _ r 0 R1 (by omega))
  go_wp2_with fail
  refine HS.out.mono ?_
  rintro e w2 ⟨u, xs, p', rfl, ho, hsh, R2, hp, g2⟩
  have HSH := Lib.hid hsh
  have b2 : Below w.heap.size w w2 := b1.trans (below_grown g2 hs1 (fun g e => by cases e; exact hB))
  have R2' : RdM w2 u xs := Rd.of_own ho
  clear HO HS hsh ho g2 R2 R1
  go_wp2
  go_ret
  exact ⟨_, xs, rfl, R2', HSH.out, b2⟩
end Go.Proofs.Ytmifmfljiaoeaab
namespace Go.Proofs.Ytmifmfljiaoeaab
open Go.RowKit Go.PM Go.PO Go.PW
set_option maxRecDepth 100000 in
set_option maxHeartbeats 12800000 in
theorem exWheels (w : World) (v0 : Value) (n0 : Nat) (hv : RdB w w.heap.size v0 n0) :
    Calls Try.prog 7 #[v0] w fun e w' => e = .returned (.bool true) ∧ Below w.heap.size w w' := by
  have hv0 := hv
  obtain ⟨A, cap, rfl, hc, hn, _⟩ := hv
  by_cases hbig : 1048576 < n0
  · have t : decide ((n0 : Int) > 1048576) = true := by simp; omega
    go_enter Try.func7, Try.ntmps7
    go_wp2
    go_ret
    exact ⟨rfl, Below.refl _ _⟩
  have t : decide ((n0 : Int) > 1048576) = false := by simp; omega
  have HD := Lib.hid (drawWheelsOf_c w _ n0 hv0)
  clear hv0
  go_enter Try.func7, Try.ntmps7
  go_wp2_with fail
  refine HD.out.mono ?_
  rintro e w1 ⟨u, xs, rfl, R1, ⟨hl, hz⟩, b1⟩
  have hs1 := b1.size
  have HZ : Hid (∀ m ∈ xs, m.1.size ≤ 9223372036854775807 ∧ m.2.size ≤ 9223372036854775807) := fun m hm => by have := hz m hm; omega
  clear HD hz
  obtain ⟨mb, hmb⟩ : ∃ mb, mvalid xs = mb := ⟨_, rfl⟩
  have HI := Lib.hid (fun W hW => imWheelsOf_r xs u mb hmb W hW)
  have HSP := Lib.hid (fun W hW => spWheelsOf_r xs u mb hmb W hW HZ.out (by omega))
  have HLI := Lib.hid (fun W hW => imLeavesOf_c xs u W hW)
  have HLS := Lib.hid (fun W hW => spLeavesOf_c xs u W hW HZ.out (by omega))
  have HRI := Lib.hid (fun W hW => imRingsOf_r xs u mb hmb W hW)
  rw [hmb] at HLI HLS
  have HMB := Lib.hid hmb
  clear hmb
  obtain ⟨lv, hlv⟩ : ∃ lv, okS mb (leavesB xs) = lv := ⟨_, rfl⟩
  rw [hlv] at HLI HLS
  have HLV := Lib.hid hlv
  clear hlv
  go_wp2_with fail
  refine (HI.out _ R1).mono ?_
  rintro e w2 ⟨A2, c2, rfl, Q2, h2⟩
  have b2 := b1.trans (h2.mono hs1)
  have hs2 := b2.size
  have R2 := R1.below h2
  clear h2 b1 R1
  go_wp2_with fail
  refine (HSP.out _ R2).mono ?_
  rintro e w3 ⟨A3, c3, rfl, P3, h3⟩
  have b3 := b2.trans (h3.mono hs2)
  have hs3 := b3.size
  have R3 := R2.below h3
  have Q3 := Q2.below h3
  clear h3 b2 R2 Q2
  go_wp2_with fail
  refine (HLI.out _ R3).mono ?_
  rintro e w4 ⟨rfl, h4⟩
  have b4 := b3.trans (h4.mono hs3)
  have hs4 := b4.size
  have R4 := R3.below h4
  have Q4 := Q3.below h4
  have P4 := P3.below h4
  clear h4 b3 R3 Q3 P3
  go_wp2_with fail
  refine (HLS.out _ R4).mono ?_
  rintro e w5 ⟨rfl, h5⟩
  have b5 := b4.trans (h5.mono hs4)
  have hs5 := b5.size
  have R5 := R4.below h5
  have Q5 := Q4.below h5
  have P5 := P4.below h5
  clear h5 b4 R4 Q4 P4
  go_wp2_with fail
  refine (HRI.out _ R5).mono ?_
  rintro e w6 ⟨A6, c6, rfl, U6, h6⟩
  have b6 := b5.trans (h6.mono hs5)
  have hs6 := b6.size
  have R6 := R5.below h6
  have Q6 := Q5.below h6
  have P6 := P5.below h6
  clear h6 b5 R5 Q5 P5
  go_wp2_with fail
  refine (pmTexts_y _ _ _ _ Q6 P6).mono ?_
  rintro e w7 ⟨rfl, h7⟩
  have b7 := b6.trans (h7.mono hs6)
  have hs7 := b7.size
  have R7 := R6.below h7
  have Q7 := Q6.below h7
  have P7 := P6.below h7
  have U7 := U6.below h7
  clear h7 b6 R6 Q6 P6 U6 HI HSP HLI HLS HRI
  cases mb with
  | false =>
    go_wp2_with fail
    refine (pmTexts_y _ _ _ _ Q7 P7).mono ?_
    rintro e w8 ⟨rfl, h8⟩
    have b8 := b7.trans (h8.mono hs7)
    clear h8 b7 R7 Q7 P7 U7
    go_wp2
    go_ret
    exact ⟨rfl, b8⟩
  | true =>
    have hMV : MV xs := by simpa [mvalid] using HMB.out
    have hf := SV_tab hMV
    have HMV := Lib.hid hMV
    have hwb : wheelsB xs = (wheelsF (tabOf xs) 9).map txt := if_pos HMB.out
    have hrb : ringsB xs = (ringsF (nxT (tabOf xs)) 9).map txt := if_pos HMB.out
    have HWR := Lib.hid (fun w hw => wheelR (f := tabOf xs) hf (w := w) hw)
    have HRF := Lib.hid (fun r hr => ring_first (f := tabOf xs) hf (r := r) hr)
    have HLE := Lib.hid (rings_le (f := tabOf xs) hf)
    have HWL := Lib.hid (wheelsF_len (f := tabOf xs) 9)
    have HLVE : Hid (lv = namesW (leafH (tabOf xs))) := HLV.out.symm
    have HWO := Lib.hid (fun W (hW : RdM W u xs) a (ha : isP a = true) => show Calls Try.prog 42 #[u, .string a] W fun e w' => e = .returned (.tuple #[.string (txt (wheelL (tabOf xs) (pidx a))), .bool true]) ∧ Below W.heap.size W w' by
      have := imWheelOf_c xs u a W hW
      rw [HMB.out, ha] at this
      exact this)
    have HRO := Lib.hid (fun W (hW : RdM W u xs) a (ha : isP a = true) => show Calls Try.prog 43 #[u, .string a] W fun e w' => e = .returned (.tuple #[.string (namesW (rdH (tabOf xs) a)), .bool true]) ∧ Below W.heap.size W w' by
      have := imReadersOf_c xs u a W hW
      rw [HMB.out, show isS a = true by unfold isS; rw [ha]; rfl] at this
      exact this)
    have HSO := Lib.hid (fun W (hW : RdM W u xs) p (hp : p < 9) => show Calls Try.prog 44 #[u, .string (nm p)] W fun e w' => e = .returned (.tuple #[.string (srcT (tabOf xs) p), .bool true]) ∧ Below W.heap.size W w' by
      have := imSourceOf_c xs u (nm p) W hW
      rw [HMB.out, isP_nm hp, ← srcM_nm HMV.out hp] at this
      exact this)
    have HX := Lib.hid (fun W (hW : Below w7.heap.size w7 W) => R7.below hW)
    rw [hwb] at Q7
    rw [hrb] at U7
    have HWB := Lib.hid hwb
    have HRB := Lib.hid hrb
    rw [hwb, hrb]
    obtain ⟨Aw, cw, ew, hwn, hwc, hwcell⟩ := Q7.open
    obtain ⟨Ar, cr, er, hrn, hrc, hrcell⟩ := U7.open
    have eAw : Aw = A2 := by injection ew with h1 _ _; exact h1.symm
    have eAr : Ar = A6 := by injection er with h1 _ _; exact h1.symm
    rw [eAw] at hwcell
    rw [eAr] at hrcell
    have HCW := Lib.hid hwcell
    have HCR := Lib.hid hrcell
    have HHD := Lib.hid (fun p q => wheelL_mem (f := tabOf xs) (p := p) (q := q))
    have hwlen : ((wheelsF (tabOf xs) 9).map txt).length ≤ 9 := by rw [List.length_map]; exact HWL.out
    have hrlen : ((ringsF (nxT (tabOf xs)) 9).map txt).length ≤ 9 := by rw [List.length_map]; exact Nat.le_trans HLE.out HWL.out
    have HLEN : Hid (((ringsF (nxT (tabOf xs)) 9).map txt).length ≤ ((wheelsF (tabOf xs) 9).map txt).length) := by
      show _ ≤ _
      rw [List.length_map, List.length_map]; exact HLE.out
    have HWK : Hid (∀ k (hk : k < ((wheelsF (tabOf xs) 9).map txt).length), ∃ wl, ((wheelsF (tabOf xs) 9).map txt)[k] = txt wl ∧ WheelR (tabOf xs) wl) := fun k hk => by
      refine ⟨(wheelsF (tabOf xs) 9)[k]'(by simpa using hk), by simp, HWR.out _ (List.getElem_mem _)⟩
    have HRK : Hid (∀ k (hk : k < ((ringsF (nxT (tabOf xs)) 9).map txt).length), ∃ hk' : k < (ringsF (nxT (tabOf xs)) 9).length, ((ringsF (nxT (tabOf xs)) 9).map txt)[k] = txt (ringsF (nxT (tabOf xs)) 9)[k]) := fun k hk => ⟨by simpa using hk, by simp⟩
    have HRL : Hid (((ringsF (nxT (tabOf xs)) 9).map txt).length = (ringsF (nxT (tabOf xs)) 9).length) := by show _ = _; rw [List.length_map]
    clear hMV hf hwb hrb Q7 U7 P7 R7 hwcell hrcell ew er eAw eAr
    generalize (wheelsF (tabOf xs) 9).map txt = TW at *
    generalize (ringsF (nxT (tabOf xs)) 9).map txt = TR at *
    go_wp2
    go_loopw [100] (fun i wr => ∃ k : Nat, k ≤ TW.length ∧ i = .int .i64 k ∧ Below w7.heap.size w7 wr) (fun i _ => TW.length - (intOf i).toNat)
    case atStart => exact ⟨0, by omega, rfl, Below.refl _ _⟩
    case round =>
      obtain ⟨k, hk, rfl, hb⟩ := hrel
      have hbs := hb.size
      by_cases hlt : k < TW.length
      · obtain ⟨wl, hwl, hW⟩ := HWK.out k hlt
        obtain ⟨b, off, hA2, hbl, hcell⟩ := HCW.out k hlt
        rw [hwl] at hcell
        have hd := (hb.cell (p := ⟨b, off + k, none⟩) hbl).trans hcell
        have hwt := hW.two
        have hw9 := hW.le
        have HW := Lib.hid hW
        have htw := txt_size wl
        have HPH : Hid (∀ r, r ∈ ringsF (nxT (tabOf xs)) 9 → pmH (txt wl) ((txt r).extract 0 1) = inW wl r) := fun r hr => by
          obtain ⟨a, l, e, ha, _⟩ := HRF.out r hr
          exact inW_pmH HW.out.low e ha
        have HWW : Hid (∀ j, j < wl.length → ∀ W, Below w7.heap.size w7 W → Calls Try.prog 42 #[u, .string ((txt wl).extract j (j + 1))] W fun e w' => e = .returned (.tuple #[.string (txt wl), .bool true]) ∧ Below W.heap.size W w') := fun j hj W hWb => by
          have h9 := HW.out.low _ (List.getElem_mem hj)
          have e1 : (txt wl).extract j (j + 1) = nm wl[j] := by rw [txt_at hj, sn_nm _ h9]
          have h2 := HWO.out W (HX.out W hWb) (nm wl[j]) (isP_nm h9)
          rw [pidx_nm h9, HW.out.same _ (List.getElem_mem hj)] at h2
          rw [e1]; exact h2
        have HCS := Lib.hid (fun j hj => cntW_succ wl (ringsF (nxT (tabOf xs)) 9) j hj)
        have HONE := Lib.hid hW.one
        clear hwl hcell hW
        generalize txt wl = tw at *
        subst hA2
        go_wp2
        clear hd
        rename World => wo
        go_loopw [16, 106] (fun c i wr => ∃ j : Nat, j ≤ TR.length ∧ i = .int .i64 j ∧ c = .int .i64 (cntW wl (ringsF (nxT (tabOf xs)) 9) j : Nat) ∧ Below w7.heap.size w7 wr) (fun _ i _ => TR.length - (intOf i).toNat)
        case atStart => exact ⟨0, by omega, rfl, rfl, hb⟩
        case round =>
          obtain ⟨j, hj, rfl, rfl, hb2⟩ := hrel
          have hb2s := hb2.size
          by_cases hlt2 : j < TR.length
          · obtain ⟨hj2, hrt⟩ := HRK.out j hlt2
            obtain ⟨b', off', hA6, hbl', hcell'⟩ := HCR.out j hlt2
            rw [hrt] at hcell'
            have hd' := (hb2.cell (p := ⟨b', off' + j, none⟩) hbl').trans hcell'
            have hph := HPH.out _ (List.getElem_mem hj2)
            have hcs := HCS.out j hj2
            have hcl := cntW_le wl (ringsF (nxT (tabOf xs)) 9) j
            obtain ⟨a0, l0, er0, _, hr2, hr19, _⟩ := HRF.out _ (List.getElem_mem hj2)
            have htr := txt_size (ringsF (nxT (tabOf xs)) 9)[j]
            clear er0 hrt hcell'
            generalize (ringsF (nxT (tabOf xs)) 9)[j] = rj at *
            generalize txt rj = tr at *
            have hpc := fun W => pmHas_c tw (tr.extract 0 1) W (by omega)
            rw [hph] at hpc
            have HPC := Lib.hid hpc
            have HCS2 := Lib.hid hcs
            clear hph hpc hcs
            generalize inW wl rj = iw at *
            have htr1 : (1 : Int) ≤ (tr.size : Int) := by omega
            generalize hcj : cntW wl (ringsF (nxT (tabOf xs)) 9) j = cj at *
            clear hcj
            subst hA6
            go_wp2_with (go_at_call 41; refine (HPC.out _).mono ?_; rintro e wx ⟨rfl, hbx⟩; refine held ?_)
            unfold Held
            have hbw := hb2.trans (hbx.mono hb2s)
            clear hbx hb2 hd'
            cases iw with
            | true =>
              have hcs3 : cntW wl (ringsF (nxT (tabOf xs)) 9) (j + 1) = cj + 1 := HCS2.out
              have HC3 := Lib.hid hcs3
              clear hcs3
              go_wp2
              go_roundw
              case rel => exact ⟨j + 1, by omega, by go_num, by rw [HC3.out]; go_num, hbw⟩
              case measure => simp [intOf]; omega
            | false =>
              have hcs3 : cntW wl (ringsF (nxT (tabOf xs)) 9) (j + 1) = cj := HCS2.out
              have HC3 := Lib.hid hcs3
              clear hcs3
              go_wp2
              go_roundw
              case rel => exact ⟨j + 1, by omega, by go_num, by rw [HC3.out], hbw⟩
              case measure => simp [intOf]; omega
          · have hje : j = TR.length := by omega
            have hone : cntW wl (ringsF (nxT (tabOf xs)) 9) j ≤ 1 := by rw [hje, HRL.out]; exact HONE.out
            generalize cntW wl (ringsF (nxT (tabOf xs)) 9) j = cj at *
            have g1 : decide ((1 : Int) < (cj : Int)) = false := decide_eq_false (by omega)
            have g2 : decide ((tw.size : Int) < 2) = false := decide_eq_false (by omega)
            have g3 : ¬ ((1 : Int) < (cj : Int)) := by omega
            clear hje
            go_wp2
            rename World => wp
            go_loopw [119] (fun i wr => ∃ j : Nat, j ≤ wl.length ∧ i = .int .i64 j ∧ Below w7.heap.size w7 wr) (fun i _ => wl.length - (intOf i).toNat)
            case atStart => exact ⟨0, by omega, rfl, hb2⟩
            case round =>
              obtain ⟨i3, hi3, rfl, hb3⟩ := hrel
              have hb3s := hb3.size
              by_cases hlt3 : i3 < wl.length
              · have hi4 : (i3 : Int) < (tw.size : Int) := by omega
                have hsz3 : i3 + 1 ≤ tw.size := by omega
                have HW3 := Lib.hid (HWW.out i3 hlt3 wr hb3)
                go_wp2_with (go_at_call 42; refine HW3.out.mono ?_; rintro e wx ⟨rfl, hbx⟩; refine held ?_)
                unfold Held
                have hbw := hb3.trans (hbx.mono hb3s)
                clear hbx hb3
                go_wp2
                go_roundw
                case rel => exact ⟨i3 + 1, by omega, by go_num, hbw⟩
                case measure => simp [intOf]; omega
              · have hje3 : i3 = wl.length := by omega
                have hnl : ¬ ((i3 : Int) < (tw.size : Int)) := by omega
                go_wp2
                go_roundw
                case rel => exact ⟨k + 1, by omega, by go_num, hb3⟩
                case measure => simp [intOf]; omega
      · have hke : k = TW.length := by omega
        clear hke
        have HEX := Lib.hid (fun i (hi : i < lv.size) => namesW_at (leafH (tabOf xs)) i (by rw [← HLVE.out]; exact hi))
        have hlv9 : lv.size ≤ 9 := by
          rw [HLVE.out]
          have h1 := namesL_size (leafH (tabOf xs)) 9
          have : (namesW (leafH (tabOf xs))).size = (namesL (leafH (tabOf xs)) (List.range 9)).length := by simp [namesW, ByteArray.size]
          omega
        rw [← HLVE.out] at HEX
        have hfin : decide ((TR.length : Int) ≤ (TW.length : Int)) = true := decide_eq_true (by have := HLEN.out; omega)
        have hfin2 : (TR.length : Int) ≤ (TW.length : Int) := by have := HLEN.out; omega
        go_wp2
        rename World => wp
        go_loopw [146] (fun i wr => ∃ j : Nat, j ≤ lv.size ∧ i = .int .i64 j ∧ Below w7.heap.size w7 wr) (fun i _ => lv.size - (intOf i).toNat)
        case atStart => exact ⟨0, by omega, rfl, hb⟩
        case round =>
          obtain ⟨j, hj, rfl, hb2⟩ := hrel
          have hb2s := hb2.size
          by_cases hlt2 : j < lv.size
          · obtain ⟨p, hp9, hpl, hex⟩ := HEX.out j hlt2
            unfold leafH at hpl
            rw [Bool.and_eq_true, decide_eq_true_eq, decide_eq_true_eq] at hpl
            have HRD := Lib.hid (fun W hW => HRO.out W hW (nm p) (isP_nm hp9))
            rw [hpl.2] at HRD
            have HSD := Lib.hid (fun W hW => HSO.out W hW p hp9)
            have hne : ((srcT (tabOf xs) p).toList == (nm p).toList) = false := by rw [beq_str, decide_eq_false_iff_not]; exact hpl.1
            have hsz2 : (j : Int) < (lv.size : Int) := by omega
            have hsz3 : j + 1 ≤ lv.size := by omega
            clear hpl
            generalize srcT (tabOf xs) p = sp at *
            generalize nm p = q at *
            have HR1 := Lib.hid (HRD.out wr (HX.out wr hb2))
            go_wp2_with (go_at_call 43; refine HR1.out.mono ?_; rintro e wx ⟨rfl, hbx⟩; refine held ?_)
            unfold Held
            have hbw := hb2.trans (hbx.mono hb2s)
            have hbws := hbw.size
            have HS1 := Lib.hid (HSD.out wx (HX.out wx hbw))
            clear hbx hb2
            go_wp2_with (go_at_call 44; refine HS1.out.mono ?_; rintro e wy ⟨rfl, hby⟩; refine held ?_)
            unfold Held
            have hbz := hbw.trans (hby.mono hbws)
            clear hby hbw
            go_wp2
            go_roundw
            case rel => exact ⟨j + 1, by omega, by go_num, hbz⟩
            case measure => simp [intOf]; omega
          · have hje : j = lv.size := by omega
            have hnl : ¬ ((j : Int) < (lv.size : Int)) := by omega
            go_wp2
            go_ret
            exact ⟨rfl, b7.trans (hb2.mono hs7)⟩

namespace fnWheels
open Go.RowKit Go.PM Go.ChangeShapes Go.WideShapes Go.ChangeAt
open Go.ChangeMaps (open_string shut_string)
set_option maxRecDepth 100000 in
theorem lifted (os : Os) (started : os.Started) (H : Type) (enc : TypeId × Value → H) :
    ReturnsInHanded {} Try.checked os 7 .any (Rows.fnWheelsSpec.pre6 enc Try.prog Try.f7 Rows.fnWheelsRow.domain false) (Rows.fnWheelsSpec.post enc Try.prog Try.f7 false true false false) := by
  refine returnsInHanded_of_change (C := Try.checked) own started (by kernel_rfl) Try.func7
    (ChangeSpec.witness6 (enc := enc) (C := Try.checked) false ⟨#[], #[.slice none 0 0], []⟩ 8 (by kernel_rfl) (by kernel_rfl) (by kernel_rfl) (by kernel_rfl)) ?_
  intro W base args ds gs before hval0 hW hcnd _
  have hval : ∀ (j : Nat) t v, Try.f7.params[j]? = some t → args[j]? = some v → Value.okWide Try.prog W .any base t v := hval0
  have hW' := hW
  obtain ⟨p, q, hA0, hV, rfl, hfz, hnd⟩ := hW
  have hA : DataW.TrodAll enc Try.prog W 0 (fun _ => true) true Try.f7.params.toList args.toList ds p := hA0
  rw [Try.params7] at hA hval
  obtain ⟨v0, vs0, d0, ds0, p0, q0, hargs, rfl, rfl, h0, r0⟩ := trodAll_cons hA
  obtain ⟨rfl, rfl, rfl⟩ := trodAll_nil r0
  obtain rfl : args = #[v0] := by cases args; simp_all
  obtain ⟨rfl, rfl⟩ := trodVars_none hV
  have k0 := h0
  have lt0 : ∀ x ∈ p0, x.block < W.heap.size := by obtain ⟨m, hm⟩ := k0; exact DataW.trod_lt m _ _ _ hm
  obtain ⟨a0, len0, cap0, rfl⟩ := okWide_slice Try.underlying22 (hval 0 22 v0 rfl rfl)
  have hx0 : RdB W W.heap.size (.slice a0 len0 cap0) len0 := by obtain ⟨fuel, hf⟩ := h0; exact open_bytes hf
  clear hA0 hval0
  refine (exWheels W _ len0 hx0).mono fun e W' ⟨he, bel⟩ => ?_
  subst he
  exact ⟨_, rfl, _, _, _, [], _, [], hW', trodAll_mk1 (shut_bool Try.underlying4 _), (trodAll_cons_mk (Below.trod laidOut (by kernel_rfl) (of_decide_eq_true (by kernel_rfl)) k0 bel lt0) trodAll_mk0), rfl, bel.frame _, fun h => by cases h⟩

theorem over : Rows.fnWheelsRow.holds Try.pinned (OpenSpec.ofChange Rows.fnWheelsSpec) :=
  OpenClaim.holds_of_wide 7 Try.f7 rfl rfl rfl rfl rfl rfl rfl ⟨rfl, rfl, rfl, rfl, rfl⟩ rfl rfl rfl rfl rfl (by kernel_rfl) Try.func7 (by kernel_rfl)
    (of_decide_eq_true (by kernel_rfl)) (by unfold Func.isWrapper; first | (rw [if_pos (by decide +kernel)]; kernel_rfl) | (rw [if_neg (by decide +kernel)]; exact ⟨rfl, rfl⟩))
    (fun os started H enc _ => lifted os started H enc)

/-- The statement. -/
theorem proved : Rows.FnWheelsSaid := over
end fnWheels
end Go.Proofs.Ytmifmfljiaoeaab
