import Derived.Test.YtcpibkffeenehaaDoorSp1
import Derived.Test.YtcpibkffeenehaaDoorRow
import Derived.Test.YtcpibkffeenehaaDoorApp
import Derived.Test.YtcpibkffeenehaaDoorHold
import Derived.Laws.BitsAllLaws
import Derived.Laws.BitsLemmas
import Derived.Test.YtcpibkffeenehaaDoorIm1
import Derived.Test.YtcpibkffeenehaaDoorCkA
import Derived.Test.YtcpibkffeenehaaDoorCkB
import Derived.Test.YtcpibkffeenehaaDoorAhd
import Derived.Laws.CopyOwn
import Derived.Outline
import Derived.Laws.EntriesVeiled
import Derived.Test.YtcpibkffeenehaaDoorNames
import Derived.Test.YtcpibkffeenehaaDoorSpS2
import Derived.Test.YtcpibkffeenehaaDoorNamesIn
import Derived.Test.YtcpibkffeenehaaDoorSource
import Derived.BigQuiet
namespace Go.PM
open Go.RowKit
/-- a slice of bytes that lies below a block -/
def RdB (w : World) (B : Nat) (v : Value) (n : Nat) : Prop :=
  ∃ A cap, v = .slice A n cap ∧ n ≤ cap ∧ n ≤ 9223372036854775807 ∧ ∀ k, k < n → ∃ b off c, A = some ⟨b, off, none⟩ ∧ b < B ∧ b < w.heap.size ∧ w.cell? ⟨b, off + k, none⟩ = some (.int .u8 c) ∧ 0 ≤ c ∧ c < 256
theorem RdB.keep {w w' : World} {B n : Nat} {v : Value} {row : Option Nat} (h : RdB w B v n) (hg : w.grownBy w' row) (hne : ∀ r, row = some r → B ≤ r) : RdB w' B v n := by
  obtain ⟨A, cap, e, h1, h2, h3⟩ := h
  refine ⟨A, cap, e, h1, h2, fun k hk => ?_⟩
  obtain ⟨b, off, c, e1, hb, hl, hc, hc0, hc1⟩ := h3 k hk
  have hs := hg.size
  refine ⟨b, off, c, e1, hb, by omega, ?_, hc0, hc1⟩
  have hh := hg.block b hl (fun e => by have := hne b e.symm; omega)
  simp only [World.cell?, hh] at hc ⊢
  exact hc
/-- a reader: its bytes and its place -/
def Rdr (w : World) (t : TypeId) (B r : Nat) (p : Int) : Prop :=
  B ≤ r ∧ 0 ≤ p ∧ ∃ v n, n ≤ 2000 ∧ RdB w B v n ∧ At w r t #[v, .int .i64 p]
theorem Rdr.keep {w w' : World} {t : TypeId} {B r : Nat} {p : Int} (h : Rdr w t B r p) (hb : Below w.heap.size w w') : Rdr w' t B r p := by
  obtain ⟨h1, h0, v, n, hn, h2, h3⟩ := h
  exact ⟨h1, h0, v, n, hn, h2.keep (grown_below hb none) (fun r e => by cases e), h3.keep hb⟩
theorem grown_set (w : World) (b i : Nat) (v : Value) : w.grownBy (w.setCell ⟨b, i, none⟩ v) (some b) :=
  ⟨rfl, rfl, rfl, by rw [World.size_setCell]; exact Nat.le_refl _, fun k _ hne => heap_setCell_other _ _ _ _ (fun e => hne (by rw [e]))⟩
theorem i64_xor (a b : Int) (h1 : 0 ≤ a) (h2 : a < 9223372036854775808) (h3 : 0 ≤ b) (h4 : b < 9223372036854775808) : 0 ≤ bits .xor .i64 a b ∧ bits .xor .i64 a b < 9223372036854775808 := by
  obtain ⟨x, rfl⟩ := Int.eq_ofNat_of_zero_le h1
  obtain ⟨y, rfl⟩ := Int.eq_ofNat_of_zero_le h3
  have hx : x ^^^ y < 2 ^ 63 := Nat.xor_lt_two_pow (by omega) (by omega)
  have e : bits .xor .i64 (x : Int) (y : Int) = ((x ^^^ y : Nat) : Int) := by
    show IntKind.i64.wrap ((BitVec.ofInt 64 (x : Int) ^^^ BitVec.ofInt 64 (y : Int)).toNat : Int) = _
    have ox : (BitVec.ofInt 64 (x : Int)).toNat = x := by simp; omega
    have oy : (BitVec.ofInt 64 (y : Int)).toNat = y := by simp; omega
    rw [BitVec.toNat_xor, ox, oy]
    rw [IntKind.wrap_i64]
    omega
  rw [e]
  omega
/-- a literal list whose elements have a property -/
def Lits (w : World) (L m : Nat) (Pr : Value → Prop) : Prop := L < w.heap.size ∧ ∀ k, k < m → ∃ u, w.cell? ⟨L, k, none⟩ = some u ∧ Pr u
theorem Lits.keep {w w' : World} {L m : Nat} {Pr : Value → Prop} {row : Option Nat} (h : Lits w L m Pr) (hg : w.grownBy w' row) (hne : row ≠ some L) : Lits w' L m Pr := by
  have hs := hg.size
  refine ⟨by have := h.1; omega, fun k hk => ?_⟩
  obtain ⟨u, hu, hp⟩ := h.2 k hk
  have hh := hg.block L h.1 (fun e => hne e.symm)
  refine ⟨u, ?_, hp⟩
  simp only [World.cell?, hh] at hu ⊢
  exact hu
theorem Lits.new (w : World) (t : TypeId) (cs : Array Value) (Pr : Value → Prop) (h : ∀ u ∈ cs.toList, Pr u) : Lits (w.alloc (.cells cs t)) w.heap.size cs.size Pr := by
  refine ⟨by simp, fun k hk => ⟨cs[k], ?_, h _ (by simp)⟩⟩
  rw [(At.new w t cs).cell k]
  simp [hk]
def strOk (n : Nat) : Value → Bool
  | .string s => decide (s.size ≤ n)
  | _ => false
def intOk (n : Nat) : Value → Bool
  | .int .i64 x => decide (0 ≤ x) && decide (x ≤ n)
  | _ => false
theorem Lits.strs (w : World) (t : TypeId) (cs : Array Value) (n : Nat) (h : cs.toList.all (strOk n) = true) : Lits (w.alloc (.cells cs t)) w.heap.size cs.size (fun u => ∃ s, u = .string s ∧ s.size ≤ n) :=
  Lits.new w t cs _ fun u hu => by
    have := List.all_eq_true.1 h u hu
    cases u <;> first | (exact ⟨_, rfl, by simpa [strOk] using this⟩) | (simp [strOk] at this)
theorem Lits.ints (w : World) (t : TypeId) (cs : Array Value) (n : Nat) (h : cs.toList.all (intOk n) = true) : Lits (w.alloc (.cells cs t)) w.heap.size cs.size (fun u => ∃ x, u = .int .i64 x ∧ 0 ≤ x ∧ x ≤ n) :=
  Lits.new w t cs _ fun u hu => by
    have h2 := List.all_eq_true.1 h u hu
    unfold intOk at h2
    split at h2
    · rw [Bool.and_eq_true, decide_eq_true_eq, decide_eq_true_eq] at h2
      exact ⟨_, rfl, h2⟩
    · cases h2
end Go.PM
namespace Go.Proofs.YtcpibkffeenehaaDoor
open Go.RowKit Go.PM

set_option maxRecDepth 100000 in
set_option maxHeartbeats 2000000 in
theorem pick_c (w : World) (B r : Nat) (n p : Int) (hr : Rdr w 95 B r p) (h1 : 1 ≤ n) (h2 : n ≤ 1048576) (p1 : p ≤ 1099511627776) :
    Calls Tryd.prog 69 #[.pointer (some ⟨r, 0, none⟩), .int .i64 n] w fun e w' => ∃ k : Int, e = .returned (.int .i64 k) ∧ 0 ≤ k ∧ k < n ∧ Rdr w' 95 B r (p + 1) ∧ w.grownBy w' (some r) := by
  obtain ⟨hB, p0, v, N, hN, hv, hA⟩ := hr
  obtain ⟨P, rfl⟩ := Int.eq_ofNat_of_zero_le p0
  clear p0
  have n0 : decide (n < 1) = false := decide_eq_false (by omega)
  have c0 : w.cell? ⟨r, 0, none⟩ = some v := hA.cell 0
  have c1 : w.cell? ⟨r, 1, none⟩ = some (.int .i64 (P : Int)) := hA.cell 1
  have f1 : w.frozen? ⟨r, 1, none⟩ = false := hA.frozen 1
  have n1 : At (w.setCell ⟨r, 1, none⟩ (.int .i64 ((P : Int) + 1))) r 95 #[v, .int .i64 ((P : Int) + 1)] := hA.set 1 _
  have g1 : w.grownBy (w.setCell ⟨r, 1, none⟩ (.int .i64 ((P : Int) + 1))) (some r) := grown_set w r 1 _
  have v1 := hv.keep g1 (fun r' e => by cases e; exact hB)
  have d0 := n1.cell 0
  have d1 := n1.cell 1
  have R1 : Rdr (w.setCell ⟨r, 1, none⟩ (.int .i64 ((P : Int) + 1))) 95 B r ((P : Int) + 1) := ⟨hB, by omega, v, N, hN, v1, n1⟩
  clear hv
  obtain ⟨A, cap, rfl, hc, _, hcell⟩ := v1
  generalize hw1 : w.setCell ⟨r, 1, none⟩ (.int .i64 ((P : Int) + 1)) = w1 at *
  by_cases hN0 : N = 0
  · have t1 : ((N : Int) == 0) = true := by simp [hN0]
    go_enter Tryd.func69, Tryd.ntmps69
    go_wp2
    go_ret
    exact ⟨0, rfl, by omega, by omega, R1, g1⟩
  · have t1 : ((N : Int) == 0) = false := by simp [hN0]
    have i0 : (0 : Int) ≤ (P : Int) := by omega
    by_cases hlt : P < N
    · obtain ⟨b, off, c, rfl, hbB, hbl, hc1, hc2, hc3⟩ := hcell P (by omega)
      have i1 : (P : Int) < N := by omega
      have hmn := Int.emod_nonneg c (show n ≠ 0 by omega)
      have hml := Int.emod_lt_of_pos c (show 0 < n by omega)
      go_enter Tryd.func69, Tryd.ntmps69
      go_wp2
      go_ret
      exact ⟨_, rfl, hmn, hml, R1, g1⟩
    · obtain ⟨b, off, c, rfl, hbB, hbl, hc1, hc2, hc3⟩ := hcell (P % N) (Nat.mod_lt _ (by omega))
      obtain ⟨b', off', c', e, _, _, hd1, hd2, hd3⟩ := hcell ((P * 7 + 3) % N) (Nat.mod_lt _ (by omega))
      obtain ⟨rfl, rfl⟩ : b = b' ∧ off = off' := by cases e; exact ⟨rfl, rfl⟩
      clear e
      have j0 : (0 : Int) ≤ (P : Int) % (N : Int) := Int.emod_nonneg _ (by omega)
      have j1 : (P : Int) % (N : Int) < (N : Int) := Int.emod_lt_of_pos _ (by omega)
      have k0 : (0 : Int) ≤ ((P : Int) * 7 + 3) % (N : Int) := Int.emod_nonneg _ (by omega)
      have k1 : ((P : Int) * 7 + 3) % (N : Int) < (N : Int) := Int.emod_lt_of_pos _ (by omega)
      have u0 : (0 : Int) ≤ (P : Int) / (N : Int) := Int.ediv_nonneg (by omega) (by omega)
      have u1 : (P : Int) / (N : Int) ≤ (P : Int) := Int.ediv_le_self _ (by omega)
      go_enter Tryd.func69, Tryd.ntmps69
      go_wp2
      refine wp_region_quiet (C := fun w' => w' = w1.drew) (by kernel_rfl) (by kernel_rfl) rfl ?_
      simp only
      repeat (go_big_quiet_step (fail))
      refine wpQuiet_nil ?_
      intro w' hw'
      subst hw'
      have X0 : 0 ≤ c * 131 + c' * 1117 + (P : Int) * 29 + (P : Int) / (N : Int) * 53 := by omega
      have X1 : c * 131 + c' * 1117 + (P : Int) * 29 + (P : Int) / (N : Int) * 53 ≤ 1000000000000000 := by omega
      clear hcell hc1 hd1 hlt
      generalize c * 131 + c' * 1117 + (P : Int) * 29 + (P : Int) / (N : Int) * 53 = X at *
      have hX := i64_xor X (X / 64) X0 (by omega) (by omega) (by omega)
      have hmn := Int.emod_nonneg (bits .xor .i64 X (X / 64)) (show n ≠ 0 by omega)
      have hml := Int.emod_lt_of_pos (bits .xor .i64 X (X / 64)) (show 0 < n by omega)
      obtain ⟨y0, y1⟩ := hX
      go_wp2
      go_ret
      exact ⟨_, rfl, hmn, hml, R1, ⟨g1.os, g1.tape, g1.output, g1.size, g1.block⟩⟩

set_option maxHeartbeats 800000 in
theorem l13Open_c (w : World) (v : Value) (n : Nat) (hv : RdB w w.heap.size v n) :
    Calls Tryd.prog 43 #[v] w fun e w' => ∃ r, e = .returned (.pointer (some ⟨r, 0, none⟩)) ∧ Rdr w' 95 w.heap.size r 0 ∧ Below w.heap.size w w' := by
  have hv0 := hv
  obtain ⟨A, cap, rfl, hc, hN, hcell⟩ := hv
  by_cases h : n ≤ 2000
  · have t1 : decide ((n : Int) > 2000) = false := by simp; omega
    go_enter Tryd.func43, Tryd.ntmps43
    go_wp2
    go_ret
    exact ⟨_, rfl, ⟨Nat.le_refl _, Int.le_refl _, _, n, h, (show RdB w w.heap.size (.slice A n cap) n from ⟨A, cap, rfl, by omega, by omega, fun k hk => hcell k (by omega)⟩).keep (grown_below ((Below.refl _ _).alloc (Nat.le_refl _) _) none) (fun r e => by cases e), At.new _ _ _⟩, (Below.refl _ _).alloc (Nat.le_refl _) _⟩
  · have t1 : decide ((n : Int) > 2000) = true := by simp; omega
    go_enter Tryd.func43, Tryd.ntmps43
    go_wp2
    go_ret
    exact ⟨_, rfl, ⟨Nat.le_refl _, Int.le_refl _, _, 2000, Nat.le_refl _, (show RdB w w.heap.size (.slice A (2000 : Nat) cap) 2000 from ⟨A, cap, rfl, by omega, by omega, fun k hk => hcell k (by omega)⟩).keep (grown_below ((Below.refl _ _).alloc (Nat.le_refl _) _) none) (fun r e => by cases e), At.new _ _ _⟩, (Below.refl _ _).alloc (Nat.le_refl _) _⟩

set_option maxHeartbeats 800000 in
theorem of_c (w : World) (B r L m : Nat) (p : Int) (Pr : ByteArray → Prop) (hr : Rdr w 95 B r p) (hm : 1 ≤ m) (hm2 : m ≤ 1048576) (p1 : p ≤ 1099511627776) (hL : Lits w L m (fun u => ∃ s, u = .string s ∧ Pr s)) (hne : L ≠ r) :
    Calls Tryd.prog 58 #[.pointer (some ⟨r, 0, none⟩), .slice (some ⟨L, 0, none⟩) m m] w fun e w' => ∃ s, e = .returned (.string s) ∧ Pr s ∧ Rdr w' 95 B r (p + 1) ∧ w.grownBy w' (some r) := by
  have HP := Lib.hid (pick_c w B r m p hr (by omega) (by omega) p1)
  go_enter Tryd.func58, Tryd.ntmps58
  go_wp2_with fail
  refine HP.out.mono ?_
  rintro e w1 ⟨k, rfl, k0, k1, R1, g1⟩
  obtain ⟨K, rfl⟩ := Int.eq_ofNat_of_zero_le k0
  have L1 := hL.keep g1 (fun e => hne (by cases e; rfl))
  obtain ⟨u, hu, s, rfl, hs⟩ := L1.2 K (by omega)
  go_wp2
  go_ret
  exact ⟨s, rfl, hs, R1, g1⟩
set_option maxHeartbeats 800000 in
theorem num_c (w : World) (B r L m : Nat) (p : Int) (Pr : Int → Prop) (hr : Rdr w 95 B r p) (hm : 1 ≤ m) (hm2 : m ≤ 1048576) (p1 : p ≤ 1099511627776) (hL : Lits w L m (fun u => ∃ x, u = .int .i64 x ∧ Pr x)) (hne : L ≠ r) :
    Calls Tryd.prog 63 #[.pointer (some ⟨r, 0, none⟩), .slice (some ⟨L, 0, none⟩) m m] w fun e w' => ∃ x, e = .returned (.int .i64 x) ∧ Pr x ∧ Rdr w' 95 B r (p + 1) ∧ w.grownBy w' (some r) := by
  have HP := Lib.hid (pick_c w B r m p hr (by omega) (by omega) p1)
  go_enter Tryd.func63, Tryd.ntmps63
  go_wp2_with fail
  refine HP.out.mono ?_
  rintro e w1 ⟨k, rfl, k0, k1, R1, g1⟩
  obtain ⟨K, rfl⟩ := Int.eq_ofNat_of_zero_le k0
  have L1 := hL.keep g1 (fun e => hne (by cases e; rfl))
  obtain ⟨u, hu, s, rfl, hs⟩ := L1.2 K (by omega)
  go_wp2
  go_ret
  exact ⟨s, rfl, hs, R1, g1⟩
end Go.Proofs.YtcpibkffeenehaaDoor
namespace Go.PM
open Go.RowKit
open Go.Lib (indexByte)
/-- what is before the first such letter, what is behind it, and whether there is one -/
def cutB (s : ByteArray) (c : UInt8) : ByteArray × ByteArray × Bool :=
  if 0 ≤ indexByte s.data.toList c then (s.extract 0 (indexByte s.data.toList c).toNat, s.extract ((indexByte s.data.toList c).toNat + 1) s.size, true) else (s, ⟨#[]⟩, false)
theorem ixB_lt (l : List UInt8) (c : UInt8) : indexByte l c < l.length := by
  induction l with
  | nil => show (-1 : Int) < 0; decide
  | cons b l ih =>
    unfold indexByte
    split
    · simp only [List.length_cons]; omega
    · split
      · simp; omega
      · simp only [List.length_cons]; omega
theorem results_tmp3 {fn : Func} {t u x : Tmp} (h : fn.results = #[.tmp t, .tmp u, .tmp x]) (tmps : Array Value) (P : Program) (w : World) :
    (results fn tmps).run P w = .ok (.tuple #[tmps.getD t undef, tmps.getD u undef, tmps.getD x undef]) w := by
  simp [results, h]
end Go.PM
namespace Go.Proofs.YtcpibkffeenehaaDoor
open Go.RowKit Go.PM
open Go.Lib (indexByte)

end Go.Proofs.YtcpibkffeenehaaDoor
namespace Go.PM
open Go.RowKit
open Go.Lib (indexByte)
/-- the pieces of a list between the letters c -/
def pcsL (c : UInt8) : List UInt8 → List (List UInt8)
  | [] => [[]]
  | b :: l => if b = c then [] :: pcsL c l else match pcsL c l with
    | p :: ps => (b :: p) :: ps
    | [] => [[b]]
theorem pcsL_none (c : UInt8) (l : List UInt8) (h : c ∉ l) : pcsL c l = [l] := by
  induction l with
  | nil => rfl
  | cons b l ih =>
    rw [List.mem_cons, not_or] at h
    rw [pcsL, if_neg (fun e => h.1 e.symm), ih h.2]
theorem pcsL_some (c : UInt8) (l1 l2 : List UInt8) (h : c ∉ l1) : pcsL c (l1 ++ c :: l2) = l1 :: pcsL c l2 := by
  induction l1 with
  | nil => rw [List.nil_append, pcsL, if_pos rfl]
  | cons b l ih =>
    rw [List.mem_cons, not_or] at h
    rw [List.cons_append, pcsL, if_neg (fun e => h.1 e.symm), ih h.2]
theorem ix_some (c : UInt8) (l1 l2 : List UInt8) (h : c ∉ l1) : indexByte (l1 ++ c :: l2) c = l1.length := by
  induction l1 with
  | nil => simp [indexByte]
  | cons b l ih =>
    rw [List.mem_cons, not_or] at h
    rw [List.cons_append, indexByte, ih h.2]
    have hb : (b == c) = false := by simpa using fun e => h.1 e.symm
    have h1 : (((l.length : Nat) : Int) == -1) = false := by simp
    rw [hb, h1]
    simp
def mkB (l : List UInt8) : ByteArray := ⟨l.toArray⟩
theorem mkB_data (s : ByteArray) : mkB s.data.toList = s := rfl
theorem mkB_list (l : List UInt8) : (mkB l).data.toList = l := rfl
/-- the pieces of a text -/
def pcsB (c : UInt8) (s : ByteArray) : List ByteArray := (pcsL c s.data.toList).map mkB
theorem ext_list (s : ByteArray) (a b : Nat) : (s.extract a b).data.toList = (s.data.toList.drop a).take (b - a) := by
  rw [ByteArray.data_extract, Array.toList_extract]
  try simp [List.extract_eq_drop_take]
theorem split_at (c : UInt8) (l : List UInt8) (h : c ∈ l) : ∃ l1 l2, l = l1 ++ c :: l2 ∧ c ∉ l1 := by
  induction l with
  | nil => cases h
  | cons b l ih =>
    by_cases e : b = c
    · subst e; exact ⟨[], l, rfl, by simp⟩
    · have h2 : c ∈ l := by
        rcases List.mem_cons.1 h with h | h
        · exact absurd h.symm e
        · exact h
      obtain ⟨l1, l2, rfl, h3⟩ := ih h2
      exact ⟨b :: l1, l2, rfl, by rw [List.mem_cons, not_or]; exact ⟨fun h => e h.symm, h3⟩⟩
/-- one cut: the first piece, and the pieces of what is left -/
theorem pcsB_cut (c : UInt8) (s : ByteArray) : pcsB c s = if (cutB s c).2.2 then (cutB s c).1 :: pcsB c (cutB s c).2.1 else [(cutB s c).1] := by
  by_cases h : c ∈ s.data.toList
  · obtain ⟨l1, l2, e, hn⟩ := split_at c _ h
    have hi : indexByte s.data.toList c = (l1.length : Nat) := by rw [e]; exact ix_some c l1 l2 hn
    have hB : cutB s c = (s.extract 0 l1.length, s.extract (l1.length + 1) s.size, true) := by
      unfold cutB
      rw [hi, if_pos (by omega)]
      rfl
    rw [hB, if_pos rfl]
    unfold pcsB
    rw [e, pcsL_some c l1 l2 hn, List.map_cons]
    have hsz : s.size = l1.length + 1 + l2.length := by rw [← size_data, e]; simp; omega
    have h1 : s.extract 0 l1.length = mkB l1 := by
      apply Go.WideShapes.bytes_inj
      rw [ext_list, e]; simp [mkB]
    have h2 : (s.extract (l1.length + 1) s.size).data.toList = l2 := by
      rw [ext_list, e, hsz]
      have h3 : (l1 ++ c :: l2).drop (l1.length + 1) = l2 := by
        rw [show l1 ++ c :: l2 = (l1 ++ [c]) ++ l2 by simp, show l1.length + 1 = (l1 ++ [c]).length by simp]
        exact List.drop_left
      rw [h3]
      exact List.take_of_length_le (by omega)
    rw [h1, h2]
  · have hi : ¬ 0 ≤ indexByte s.data.toList c := fun h2 => h ((indexByte_mem _ _).1 h2)
    have hB : cutB s c = (s, ⟨#[]⟩, false) := if_neg hi
    rw [hB]
    unfold pcsB
    rw [pcsL_none c _ h]
    rfl
theorem cutB_less (c : UInt8) (s : ByteArray) (h : (cutB s c).2.2 = true) : (cutB s c).2.1.size < s.size := by
  unfold cutB at h ⊢
  split at h
  · next hi =>
    rw [if_pos hi]
    have := ixB_lt s.data.toList c
    rw [size_data] at this
    simp only [ByteArray.size_extract]
    omega
  · cases h
theorem cutB_size (c : UInt8) (s : ByteArray) : (cutB s c).1.size ≤ s.size ∧ (cutB s c).2.1.size ≤ s.size := by
  unfold cutB
  split
  · simp only [ByteArray.size_extract]; omega
  · exact ⟨Nat.le_refl _, Nat.zero_le _⟩
/-- the scan finds the same pieces -/
theorem scan_pcs (s : ByteArray) (c : UInt8) : ∀ k, k ≤ s.size → ((cutS s c k).1 ++ (pcsL c (s.data.toList.drop (cutS s c k).2)).map mkB = pcsB c s) ∧ c ∉ (s.data.toList.drop (cutS s c k).2).take (k - (cutS s c k).2) ∧ (cutS s c k).2 ≤ k
  | 0, _ => ⟨rfl, by simp [cutS], Nat.le_refl _⟩
  | k + 1, hk => by
    obtain ⟨h1, h2, h3⟩ := scan_pcs s c k (by omega)
    have hks : k < s.size := by omega
    have hkl : k < s.data.toList.length := by rw [size_data]; exact hks
    have hsk : s.data.toList[k] = s[k] := rfl
    by_cases hc : s[k] = c
    · rw [cutS_yes s c k hks hc]
      refine ⟨?_, by simp, Nat.le_refl _⟩
      rw [← h1]
      generalize hfr : (cutS s c k).2 = fr at *
      have e : s.data.toList.drop fr = (s.data.toList.drop fr).take (k - fr) ++ c :: s.data.toList.drop (k + 1) := by
        have e1 := (List.take_append_drop (k - fr) (s.data.toList.drop fr)).symm
        rw [List.drop_drop, show fr + (k - fr) = k by omega, List.drop_eq_getElem_cons hkl, hsk, hc] at e1
        exact e1
      have e3 := pcsL_some c _ (s.data.toList.drop (k + 1)) h2
      rw [← e] at e3
      rw [e3, List.map_cons]
      have e4 : s.extract fr k = mkB ((s.data.toList.drop fr).take (k - fr)) := by
        apply Go.WideShapes.bytes_inj
        rw [ext_list]; rfl
      rw [e4]
      simp
    · rw [cutS_no s c k hks hc]
      refine ⟨h1, ?_, by omega⟩
      generalize hfr : (cutS s c k).2 = fr at *
      rw [show k + 1 - fr = (k - fr) + 1 by omega]
      intro hm
      rw [List.take_add_one] at hm
      rcases List.mem_append.1 hm with h | h
      · exact h2 h
      · rw [List.getElem?_drop, show fr + (k - fr) = k by omega, List.getElem?_eq_getElem hkl, hsk] at h
        have h5 : c = s[k] := by simpa using h
        exact hc h5.symm
theorem cutP_pcs (s : ByteArray) (c : UInt8) : cutP s c = pcsB c s := by
  obtain ⟨h1, h2, h3⟩ := scan_pcs s c s.size (Nat.le_refl _)
  unfold cutP
  rw [cutS_end]
  rw [← h1]
  generalize hfr : (cutS s c s.size).2 = fr at *
  have hl : (s.data.toList.drop fr).take (s.size - fr) = s.data.toList.drop fr := by
    rw [List.take_of_length_le]
    rw [List.length_drop, size_data]; exact Nat.le_refl _
  rw [hl] at h2
  rw [pcsL_none c _ h2]
  have e4 : s.extract fr s.size = mkB (s.data.toList.drop fr) := by
    apply Go.WideShapes.bytes_inj
    rw [ext_list, hl]; rfl
  rw [e4]; rfl
def tot : List (List UInt8) → Nat
  | [] => 0
  | p :: ps => p.length + 1 + tot ps
theorem tot_pcs (c : UInt8) (l : List UInt8) : tot (pcsL c l) = l.length + 1 := by
  induction l with
  | nil => rfl
  | cons b l ih =>
    unfold pcsL
    split
    · simp only [tot, List.length_nil, List.length_cons]; omega
    · cases h : pcsL c l with
      | nil => rw [h] at ih; simp [tot] at ih
      | cons p ps =>
        rw [h] at ih
        simp only [tot, List.length_cons] at ih ⊢
        omega
theorem tot_three : ∀ ps : List (List UInt8), (∀ p ∈ ps, p.length = 3) → tot ps = 4 * ps.length
  | [], _ => rfl
  | p :: ps, h => by
    have h1 := h p (by simp)
    have h2 := tot_three ps (fun q hq => h q (by simp [hq]))
    simp only [tot, List.length_cons]
    omega
theorem cutP_three {s : ByteArray} {c : UInt8} (h : ∀ x ∈ cutP s c, x.size = 3) : 4 * (cutP s c).length = s.size + 1 := by
  rw [cutP_pcs] at h ⊢
  unfold pcsB at h ⊢
  rw [List.length_map, ← tot_three _ (fun p hp => ?_), tot_pcs, size_data]
  have := h (mkB p) (List.mem_map.2 ⟨p, hp, rfl⟩)
  rw [← size_data] at this
  exact this
end Go.PM
namespace Go.PM
open Go.RowKit
theorem cutS_size (s : ByteArray) (c : UInt8) (i : Nat) : ∀ x ∈ (cutS s c i).1, x.size ≤ s.size := by
  induction i with
  | zero => intro x hx; cases hx
  | succ i ih =>
    rw [cutS]
    split
    · intro x hx
      rcases List.mem_append.1 hx with h | h
      · exact ih x h
      · have : x = s.extract (cutS s c i).2 i := by simpa using h
        subst this
        rw [ByteArray.size_extract]
        omega
    · exact ih
theorem cutP_size {s : ByteArray} {c : UInt8} {x : ByteArray} (h : x ∈ cutP s c) : x.size ≤ s.size := cutS_size s c _ x h
theorem cutP_len (s : ByteArray) (c : UInt8) : (cutP s c).length ≤ s.size + 1 := cutS_len s c _
def pOk (x : ByteArray) : Bool := match x.data.toList with
  | [_, e, _] => decide (e = 61)
  | _ => false
def pM (x : ByteArray) : Mv := (x.extract 0 1, x.extract 2 x.size)
theorem three_of_size {x : ByteArray} (h : x.size = 3) : ∃ a b c, x = ⟨#[a, b, c]⟩ := by
  obtain ⟨⟨l⟩⟩ := x
  match l, h with
  | [a, b, c], _ => exact ⟨a, b, c, rfl⟩
theorem pOk_size {x : ByteArray} (h : ¬ x.size = 3) : pOk x = false := by
  obtain ⟨⟨l⟩⟩ := x
  unfold pOk
  split
  · next e => simp at e; subst e; exact absurd rfl h
  · rfl
def prsL (t : ByteArray) : List Mv := (cutP t 44).map pM
def prsOk (t : ByteArray) : Bool := decide (t = ⟨#[45]⟩) || ((cutP t 44).all pOk && mvalid (prsL t))
def prsM (t : ByteArray) : List Mv := if t = ⟨#[45]⟩ then [] else if (cutP t 44).all pOk && mvalid (prsL t) then prsL t else []
theorem all_no {α : Type} {p : α → Bool} {l : List α} (k : Nat) (hk : k < l.length) (h : p l[k] = false) : l.all p = false := by
  cases hh : l.all p with
  | false => rfl
  | true => rw [List.all_eq_true] at hh; rw [hh _ (List.getElem_mem hk)] at h; cases h
theorem all_yes {α : Type} {p : α → Bool} {l : List α} (h : ∀ k (hk : k < l.length), p l[k] = true) : l.all p = true := by
  rw [List.all_eq_true]
  intro x hx
  obtain ⟨k, hk, rfl⟩ := List.getElem_of_mem hx
  exact h k hk
theorem rows_apart {w : World} {base base' : Nat} {e e' : TypeId} {size size' n n' : Nat} {v v' : Value} {cs cs' : List Value} (h : w.ownsRow base e size v n cs) (h' : w.ownsRow base' e' size' v' n' cs') (hne : e ≠ e') : v.ownBlock ≠ v'.ownBlock ∨ v'.ownBlock = none := by
  rcases h'.2 with ⟨rfl, _⟩ | ⟨g, cap, cur, rfl, _, hg, _⟩
  · exact .inr rfl
  · refine .inl fun e1 => ?_
    rcases h.2 with ⟨rfl, _⟩ | ⟨g2, cap2, cur2, rfl, _, hg2, _⟩
    · cases e1
    · cases e1
      rw [hg] at hg2
      cases hg2
      exact hne rfl
theorem Rd.one {w : World} {v : Value} {ys : List ByteArray} (h : Rd w 1 v ys.length (ys.map Value.string)) : ∃ A cap, v = .slice A ys.length cap ∧ ys.length ≤ 9223372036854775807 ∧ ys.length ≤ cap ∧
    ∀ k (hk : k < ys.length), ∃ b off, A = some ⟨b, off, none⟩ ∧ b < w.heap.size ∧ w.cell? ⟨b, off + k, none⟩ = some (.string ys[k]) := by
  obtain ⟨A, cap, e, hc, hn, hl, hr⟩ := h
  refine ⟨A, cap, e, hn, hc, fun k hk => ?_⟩
  obtain ⟨b, off, eA, hb, hcell⟩ := hr (by omega)
  exact ⟨b, off, eA, hb, hcell k _ (by simp [hk])⟩
end Go.PM
namespace Go.Proofs.YtcpibkffeenehaaDoor
open Go.RowKit Go.PM

set_option maxRecDepth 100000 in
set_option maxHeartbeats 3200000 in
theorem spParseMoves_c (t : ByteArray) (w : World) (ht : t.size ≤ 1048576) :
    Calls Tryd.prog 121 #[.string t] w fun e w' => ∃ v', e = .returned (.tuple #[v', .bool (prsOk t)]) ∧ w'.ownsRow w.heap.size 60 2 v' (prsM t).length (mcells (prsM t)) ∧ Below w.heap.size w w' := by
  have hE := World.ownsRow_lit (e := 60) (base := w.heap.size) (size := 2) w #[] 0 (Nat.le_refl _) (Nat.zero_le _) rfl
  have hd45 : (t.toList == [45]) = decide (t = ⟨#[45]⟩) := by
    have e : (ByteArray.mk #[45]).toList = [45] := by rw [ByteArray.toList_eq]
    have h := beq_str t ⟨#[45]⟩
    rw [e] at h; exact h
  by_cases h0 : t = ⟨#[45]⟩
  · have HK : Hid (prsOk t = true) := by show _ = _; rw [prsOk, decide_eq_true h0]; rfl
    have HM : Hid (prsM t = []) := if_pos h0
    subst h0
    clear hd45
    go_enter Tryd.func121, Tryd.ntmps121
    go_wp2
    go_ret2
    exact ⟨_, by rw [HK.out]; rfl, by rw [HM.out]; exact hE, by (repeat' (first | (with_reducible exact Below.refl _ _) | (with_reducible assumption) | (with_reducible refine Below.alloc ?_ ?_ _) | (with_reducible refine Below.drew ?_) | (with_reducible refine Below.setCell ?_ ?_ _) | (with_reducible exact Nat.le_refl _) | omega | ((repeat (first | rewrite [World.size_alloc] | rewrite [World.size_setCell] | rewrite [World.size_drew])); omega) | (simp; omega) | (simp; done)))⟩
  · have HK : Hid (prsOk t = ((cutP t 44).all pOk && mvalid (prsL t))) := by show _ = _; rw [prsOk, decide_eq_false h0]; rfl
    have HM : Hid (prsM t = if (cutP t 44).all pOk && mvalid (prsL t) then prsL t else []) := if_neg h0
    have HL : Hid (prsL t = (cutP t 44).map pM) := rfl
    have hb0 : (t.toList == [45]) = false := by rw [hd45, decide_eq_false h0]
    have HZ : Hid (∀ x ∈ cutP t 44, x.size ≤ 1048576) := fun x hx => Nat.le_trans (cutP_size hx) ht
    have hln := cutP_len t 44
    have HLB : Hid ((cutP t 44).all pOk = true → (cutP t 44).length ≤ 1048576) := fun h => by
      have := cutP_three (s := t) (c := 44) (fun x hx => by
        rcases Nat.decEq x.size 3 with h3 | h3
        · have h4 := List.all_eq_true.1 h x hx
          rw [pOk_size h3] at h4; cases h4
        · exact h3)
      omega
    have HLN : Hid ((prsL t).length = (cutP t 44).length) := by show _ = _; simp [prsL]
    have HZM : Hid (∀ m ∈ prsL t, m.1.size ≤ 9223372036854775807 ∧ m.2.size ≤ 9223372036854775807) := fun m hm => by
      obtain ⟨x, hx, rfl⟩ := List.mem_map.1 hm
      have := HZ.out x hx
      simp only [pM, ByteArray.size_extract]
      omega
    have HC := Lib.hid (l13Cut_c t 44 (w.alloc (.cells #[] 60)) ht)
    clear h0 hd45
    generalize prsL t = ms at *
    generalize cutP t 44 = ys at *
    go_enter Tryd.func121, Tryd.ntmps121
    go_wp2_with fail
    refine HC.out.mono ?_
    rintro e w1 ⟨u, rfl, ho1, hb1⟩
    have bel1 : Below w.heap.size w w1 := ((Below.refl _ _).alloc (Nat.le_refl _) _).trans (hb1.mono (by simp))
    have hs1 := bel1.size
    have hE1 := own_keep hE hb1
    obtain ⟨A, cap, rfl, hn, hc, _⟩ := Rd.one (Rd.of_own ho1)
    clear HC hE hb1
    go_wp2
    go_loopw [4, 6, 14] (fun o _ i wr => ∃ (k : Nat), k ≤ ys.length ∧ i = .int .i64 k ∧ Hid (∀ j (hj : j < ys.length), j < k → pOk ys[j] = true) ∧ wr.ownsRow w.heap.size 60 2 o ((ys.take k).map pM).length (mcells ((ys.take k).map pM)) ∧ Below w.heap.size w wr ∧ wr.ownsRow (w.alloc (.cells #[] 60)).heap.size 9 1 (.slice A ys.length cap) ys.length (ys.map Value.string)) (fun _ _ i _ => ys.length - (intOf i).toNat)
    case atStart => exact ⟨0, by omega, rfl, fun j _ h => absurd h (Nat.not_lt_zero _), hE1, bel1, ho1⟩
    case round =>
      obtain ⟨k, hk, rfl, hp, ho, hb, hy⟩ := hrel
      have hbs := hb.size
      by_cases hlt : k < ys.length
      · obtain ⟨A', cap', e', _, _, hcell⟩ := Rd.one (Rd.of_own hy)
        obtain ⟨rfl, rfl⟩ : A = A' ∧ cap = cap' := by cases e'; exact ⟨rfl, rfl⟩
        clear e'
        obtain ⟨b, off, rfl, hbl, hd1⟩ := hcell k hlt
        have hsz := HZ.out ys[k] (List.getElem_mem hlt)
        have HNO : Hid (pOk ys[k] = false → ys.all pOk = false) := fun h => all_no k hlt h
        have HST : Hid ((ys.take (k + 1)).map pM = (ys.take k).map pM ++ [pM ys[k]]) := by show _ = _; rw [take_snoc ys k hlt, List.map_append]; rfl
        have HPP : Hid (pOk ys[k] = true → ∀ j (hj : j < ys.length), j < k + 1 → pOk ys[j] = true) := fun h j hj hjk => by
          rcases Nat.lt_succ_iff_lt_or_eq.1 hjk with h2 | h2
          · exact hp.out j hj h2
          · subst h2; exact h
        have hl2 : ((ys.take k).map pM).length ≤ k := by simp; omega
        clear hcell
        generalize ys[k] = x at *
        by_cases h3 : x.size = 3
        · obtain ⟨a, e, c, rfl⟩ := three_of_size h3
          have hx0 : (ByteArray.mk #[a, e, c]).extract 0 1 = ⟨#[a]⟩ := rfl
          have hx1 : (ByteArray.mk #[a, e, c]).extract 2 3 = ⟨#[c]⟩ := rfl
          by_cases h61 : e = 61
          · subst h61
            have q : (((ByteArray.mk #[a, 61, c])[1].toNat : Int) != 61) = false := rfl
            have HPM : Hid (pM ⟨#[a, 61, c]⟩ = (⟨#[a]⟩, ⟨#[c]⟩)) := rfl
            have HP2 := Lib.hid (HPP.out rfl)
            have hnw := two_new wr.drew (.string ⟨#[a]⟩) (.string ⟨#[c]⟩) 60
            have hsd : wr.drew.heap.size = wr.heap.size := rfl
            go_wp2
            refine region_late_wide (m := 0) (C := fun w' => w' = wr.drew) (D := fun _ => True) 6 (by kernel_rfl) (by kernel_rfl) _ _ (by rfl) (by rfl) (by rfl) u4 (by intro _ _ _ h; exact h) (yieldsD_move (by rfl) _ (by rfl) u4 (by rfl)) (fun _ _ => trivial) rfl ?_
            simp only [List.take_succ_cons, List.take_zero, List.drop_succ_cons, List.drop_zero, Nat.reduceSub, Nat.reduceAdd]
            simp only [Act.put, List.setIfInBounds_toArray, List.set_cons_succ, List.set_cons_zero]
            repeat (gi_big_quiet_step (fail))
            refine wpQuietIn_nil ?_
            intro w' hw' K hK
            subst hw'
            refine sliceIn_mv (.tmp 32) rfl ⟨#[a]⟩ ⟨#[c]⟩ (by rfl) ?_
            refine hK _ _ trivial ?_
            clear hK K
            simp only [Act.put, List.setIfInBounds_toArray, List.set_cons_succ, List.set_cons_zero]
            refine listIn_mv rfl (.tmp 27) (.tmp 33) rfl w.heap.size u4 ((ys.take k).map pM) (⟨#[a]⟩, ⟨#[c]⟩) ⟨wr.drew.heap.size, 0, none⟩ 1 (by rfl) (by rfl) (own_keep (show wr.drew.ownsRow w.heap.size 60 2 u4 ((ys.take k).map pM).length (mcells ((ys.take k).map pM)) from ho) ((Below.refl _ _).alloc (Nat.le_refl _) _)) hnw (by omega) (by simp; omega) ?_
            intro v' w3 hown3 hgrow3
            have hb3 := below_grown hgrow3 (B := w.heap.size) (by simp; omega) (own_block_ge ho)
            have hy3 := own_grown (own_keep (show wr.drew.ownsRow (w.alloc (.cells #[] 60)).heap.size 9 1 (.slice (some ⟨b, off, none⟩) ys.length cap) ys.length (ys.map Value.string) from hy) ((Below.refl _ _).alloc (Nat.le_refl _) _)) hgrow3 (rows_apart hy ho (by decide))
            have hbd : Below w.heap.size w wr.drew := hb.drew
            gi_wp2
            go_wp2
            go_roundw
            case rel => exact ⟨k + 1, by omega, by go_num, HP2.out, by rw [HST.out, HPM.out]; exact hown3, (hbd.alloc hbs _).trans hb3, hy3⟩
            case measure => simp [intOf] <;> omega
          · have q : (((ByteArray.mk #[a, e, c])[1].toNat : Int) != 61) = true := by
              show ((e.toNat : Int) != 61) = true
              simp only [bne_iff_ne]
              intro h
              have h6 : (61 : UInt8).toNat = 61 := rfl
              exact h61 (UInt8.toNat_inj.1 (by omega))
            have HD : Hid (ys.all pOk = false) := HNO.out (decide_eq_false h61)
            have hE3 := World.ownsRow_lit (e := 60) (base := w.heap.size) (size := 2) wr #[] 0 hbs (Nat.zero_le _) rfl
            go_wp2
            go_ret2
            exact ⟨_, by rw [HK.out, HD.out]; rfl, by rw [HM.out, HD.out]; exact hE3, hb.alloc hbs _⟩
        · have q : ¬ ((x.size : Int) = 3) := by omega
          have HD : Hid (ys.all pOk = false) := HNO.out (pOk_size h3)
          have hE3 := World.ownsRow_lit (e := 60) (base := w.heap.size) (size := 2) wr #[] 0 hbs (Nat.zero_le _) rfl
          go_wp2
          go_ret2
          exact ⟨_, by rw [HK.out, HD.out]; rfl, by rw [HM.out, HD.out]; exact hE3, hb.alloc hbs _⟩
      · have hkk : k = ys.length := by omega
        have HA : Hid (ys.all pOk = true) := all_yes fun j hj => hp.out j hj (by omega)
        rw [hkk, List.take_of_length_le (Nat.le_refl _), ← HL.out] at ho
        have HMV := Lib.hid (spMovesValid_c ms u4 wr (Rd.of_own ho) HZM.out (by have := HLN.out; have := HLB.out HA.out; omega))
        go_wp2_with fail
        refine HMV.out.mono ?_
        rintro e w3 ⟨rfl, hb3⟩
        rcases Bool.eq_false_or_eq_true (mvalid ms) with hv | hv
        · have HV := Lib.hid hv
          rw [hv]
          have ho3 := own_keep ho hb3
          clear hv
          go_wp2
          go_ret2
          exact ⟨_, by rw [HK.out, HA.out, HV.out]; rfl, by rw [HM.out, HA.out, HV.out]; exact ho3, hb.trans (hb3.mono hbs)⟩
        · have HV := Lib.hid hv
          rw [hv]
          have hE3 := World.ownsRow_lit (e := 60) (base := w.heap.size) (size := 2) w3 #[] 0 (Nat.le_trans hbs hb3.size) (Nat.zero_le _) rfl
          clear hv
          go_wp2
          go_ret2
          exact ⟨_, by rw [HK.out, HA.out, HV.out]; rfl, by rw [HM.out, HA.out, HV.out]; exact hE3, ((hb.trans (hb3.mono hbs)).alloc (Nat.le_trans hbs hb3.size) _)⟩
end Go.Proofs.YtcpibkffeenehaaDoor
namespace Go.PM
open Go.RowKit
def shortM (xs : List Mv) : Prop := xs.length ≤ 64 ∧ ∀ m ∈ xs, m.1.size ≤ 64 ∧ m.2.size ≤ 64
theorem prsM_short {t : ByteArray} (h : t.size ≤ 40) : shortM (prsM t) := by
  have hL : shortM (prsL t) := by
    refine ⟨?_, fun m hm => ?_⟩
    · have := cutP_len t 44
      simp only [prsL, List.length_map]
      omega
    · obtain ⟨x, hx, rfl⟩ := List.mem_map.1 hm
      have := cutP_size hx
      simp only [pM, ByteArray.size_extract]
      omega
  unfold prsM
  split
  · exact ⟨Nat.zero_le _, fun m hm => by cases hm⟩
  · split
    · exact hL
    · exact ⟨Nat.zero_le _, fun m hm => by cases hm⟩
end Go.PM
namespace Go.Proofs.YtcpibkffeenehaaDoor
open Go.RowKit Go.PM

set_option maxRecDepth 100000 in
set_option maxHeartbeats 1600000 in
theorem l1Known_c (w : World) (k : Nat) (hk : k < 13) :
    Calls Tryd.prog 108 #[.int .i64 k] w fun e w' => ∃ v xs, e = .returned v ∧ w'.ownsRow w.heap.size 60 2 v xs.length (mcells xs) ∧ shortM xs ∧ Below w.heap.size w w' := by
  have H : ∀ (t : ByteArray) (W : World), t.size ≤ 40 → Below w.heap.size w W → Calls Tryd.prog 121 #[.string t] W fun e w' => ∃ v' b, e = .returned (.tuple #[v', .bool b]) ∧ ∃ xs, w'.ownsRow w.heap.size 60 2 v' xs.length (mcells xs) ∧ shortM xs ∧ Below w.heap.size w w' := fun t W ht hb =>
    (spParseMoves_c t W (by omega)).mono fun e w' ⟨v', h1, h2, h3⟩ => ⟨v', _, h1, _, own_more h2 hb.size, prsM_short ht, hb.trans (h3.mono hb.size)⟩
  have HH := Lib.hid H
  clear H
  rcases (show k = 0 ∨ k = 1 ∨ k = 2 ∨ k = 3 ∨ k = 4 ∨ k = 5 ∨ k = 6 ∨ k = 7 ∨ k = 8 ∨ k = 9 ∨ k = 10 ∨ k = 11 ∨ k = 12 by omega) with rfl | rfl | rfl | rfl | rfl | rfl | rfl | rfl | rfl | rfl | rfl | rfl | rfl
  all_goals
    clear hk
    go_enter Tryd.func108, Tryd.ntmps108
    go_wp2_with fail
    refine (HH.out _ _ (by decide) ((Below.refl _ _).alloc (Nat.le_refl _) _)).mono ?_
    rintro e w1 ⟨v', b, rfl, xs, h1, h2, h3⟩
    go_wp2
    go_ret
    exact ⟨_, xs, rfl, h1, h2, h3⟩

end Go.Proofs.YtcpibkffeenehaaDoor
namespace Go.PM
open Go.RowKit
def strOk1 (n : Nat) : Value → Bool
  | .string s => decide (1 ≤ s.size) && decide (s.size ≤ n)
  | _ => false
theorem Lits.strs1 (w : World) (t : TypeId) (cs : Array Value) (n : Nat) (h : cs.toList.all (strOk1 n) = true) : Lits (w.alloc (.cells cs t)) w.heap.size cs.size (fun u => ∃ s, u = .string s ∧ 1 ≤ s.size ∧ s.size ≤ n) :=
  Lits.new w t cs _ fun u hu => by
    have h2 := List.all_eq_true.1 h u hu
    unfold strOk1 at h2
    split at h2
    · rw [Bool.and_eq_true, decide_eq_true_eq, decide_eq_true_eq] at h2
      exact ⟨_, rfl, h2⟩
    · cases h2
theorem grown_over {a b c : World} {row row' : Option Nat} (h : a.grownBy b row) (k : b.grownBy c row') (hn : ∀ g, row' = some g → a.heap.size ≤ g) : a.grownBy c row :=
  ⟨k.os.trans h.os, k.tape.trans h.tape, k.output.trans h.output, Nat.le_trans h.size k.size, fun i hi hne => (k.block i (Nat.lt_of_lt_of_le hi h.size) (fun e => by have := hn i e.symm; omega)).trans (h.block i hi hne)⟩
theorem Rdr.grow {w w' : World} {t : TypeId} {B r : Nat} {p : Int} {row : Option Nat} (h : Rdr w t B r p) (hg : w.grownBy w' row) (hne : ∀ g, row = some g → r < g) : Rdr w' t B r p := by
  obtain ⟨h1, h0, v, n, hn, h2, h3⟩ := h
  exact ⟨h1, h0, v, n, hn, h2.keep hg (fun g e => by have := hne g e; omega), h3.grown hg (fun e => by have := hne r e.symm; omega)⟩
end Go.PM
namespace Go.Proofs.YtcpibkffeenehaaDoor
open Go.RowKit Go.PM
open Go.Lib (indexByte)

set_option maxRecDepth 100000 in
set_option maxHeartbeats 1600000 in
theorem l1Draw_c (w : World) (B r : Nat) (p : Int) (hr : Rdr w 95 B r p) (p1 : p ≤ 1000000000) :
    Calls Tryd.prog 94 #[.pointer (some ⟨r, 0, none⟩)] w fun e w' => ∃ v xs p', e = .returned v ∧ w'.ownsRow w.heap.size 60 2 v xs.length (mcells xs) ∧ shortM xs ∧ Rdr w' 95 B r p' ∧ p' ≤ p + 64 ∧ w.grownBy w' (some r) := by
  have hlt : r < w.heap.size := by obtain ⟨_, _, v, n, _, _, h⟩ := hr; exact h.lt
  have HP := Lib.hid (pick_c w B r 3 p hr (by omega) (by omega) (by omega))
  go_enter Tryd.func94, Tryd.ntmps94
  go_wp2_with fail
  refine HP.out.mono ?_
  rintro e w1 ⟨k, rfl, k0, k1, R1, g1⟩
  have hs1 := g1.size
  by_cases h0 : k = 0
  · subst h0
    have HP2 := Lib.hid (pick_c w1 B r 13 (p + 1) R1 (by omega) (by omega) (by omega))
    go_wp2_with fail
    refine HP2.out.mono ?_
    rintro e w2 ⟨k2, rfl, k20, k21, R2, g2⟩
    obtain ⟨K, rfl⟩ := Int.eq_ofNat_of_zero_le k20
    have hs2 := g2.size
    go_wp2_with fail
    refine (l1Known_c w2 K (by omega)).mono ?_
    rintro e w3 ⟨v, xs, rfl, ho, hsh, hb⟩
    go_wp2
    go_ret
    exact ⟨_, xs, _, rfl, own_more ho (by omega), hsh, R2.keep hb, by omega, grown_trans (grown_trans g1 g2) (grown_below hb _)⟩
  · have t0 : (k == 0) = false := by simpa using h0
    go_wp2_with fail
    have E0 := World.ownsRow_lit (e := 60) (base := w.heap.size) (size := 2) w1 #[] 0 hs1 (Nat.zero_le _) rfl
    have L5 := Lits.strs1 (w1.alloc (.cells #[] 60)) 9 #[.string ⟨#[97, 98, 99, 100]⟩, .string ⟨#[97, 98, 99]⟩, .string ⟨#[97, 98, 65, 66]⟩, .string ⟨#[97, 98, 99, 100, 101, 102, 65, 66, 67]⟩, .string ⟨#[97, 98, 99, 100, 49]⟩] 40 (by rfl)
    rw [World.size_alloc] at L5
    refine (of_c _ B r (w1.heap.size + 1) 5 (p + 1) (fun s => 1 ≤ s.size ∧ s.size ≤ 40) ((R1.keep ((Below.refl _ _).alloc (Nat.le_refl _) _)).keep ((Below.refl _ _).alloc (Nat.le_refl _) _)) (by decide) (by decide) (by omega) L5 (by omega)).mono ?_
    clear L5
    rintro e w2 ⟨from_, rfl, ⟨hf1, hf2⟩, R2, g2⟩
    have E1 := own_grown (own_keep E0 ((Below.refl _ _).alloc (Nat.le_refl _) (.cells #[.string ⟨#[97, 98, 99, 100]⟩, .string ⟨#[97, 98, 99]⟩, .string ⟨#[97, 98, 65, 66]⟩, .string ⟨#[97, 98, 99, 100, 101, 102, 65, 66, 67]⟩, .string ⟨#[97, 98, 99, 100, 49]⟩] 9))) g2 (.inl (fun e => by have := own_block_ge E0 r e; omega))
    have G2 := grown_trans g1 (grown_trans (grown_below (((Below.refl _ _).alloc (Nat.le_refl _) (.cells #[] 60)).alloc (by simp) (.cells #[.string ⟨#[97, 98, 99, 100]⟩, .string ⟨#[97, 98, 99]⟩, .string ⟨#[97, 98, 65, 66]⟩, .string ⟨#[97, 98, 99, 100, 101, 102, 65, 66, 67]⟩, .string ⟨#[97, 98, 99, 100, 49]⟩] 9)) (some r)) g2)
    have hs2 := G2.size
    clear E0 g1 g2 R1 HP
    go_wp2_with fail
    refine (num_c _ B r w2.heap.size 6 (p + 1 + 1) (fun x => 0 ≤ x ∧ x ≤ 5) (R2.keep ((Below.refl _ _).alloc (Nat.le_refl _) _)) (by decide) (by decide) (by omega) (Lits.ints w2 3 #[.int .i64 3, .int .i64 4, .int .i64 2, .int .i64 5, .int .i64 1, .int .i64 0] 5 (by rfl)) (by omega)).mono ?_
    rintro e w3 ⟨x, rfl, ⟨hx1, hx2⟩, R3, g3⟩
    obtain ⟨X, rfl⟩ := Int.eq_ofNat_of_zero_le hx1
    have E3 := own_grown (own_keep E1 ((Below.refl _ _).alloc (Nat.le_refl _) _)) g3 (.inl (fun e => by have := own_block_ge E1 r e; omega))
    have G3 := grown_trans G2 (grown_trans (grown_below ((Below.refl _ _).alloc (Nat.le_refl _) _) (some r)) g3)
    have hs3 := G3.size
    clear E1 G2 R2 g3
    go_wp2
    go_loopw [3, 4, 6, 7, 8, 22] (fun o s _ _ _ i wr => ∃ (j : Nat) (xs : List Mv) (t : ByteArray) (q : Int), j ≤ X ∧ i = .int .i64 j ∧ s = .string t ∧ t.size ≤ 64 * j ∧ xs.length ≤ j ∧ Hid (∀ m ∈ xs, m.1.size ≤ 64 ∧ m.2.size ≤ 64) ∧ wr.ownsRow w.heap.size 60 2 o xs.length (mcells xs) ∧ Rdr wr 95 B r q ∧ q ≤ p + 3 + 2 * (j : Int) ∧ w.grownBy wr (some r)) (fun _ _ _ _ _ i _ => X - (intOf i).toNat)
    case atStart => exact ⟨0, [], ⟨#[]⟩, _, by omega, rfl, rfl, Nat.zero_le _, Nat.zero_le _, (fun m hm => by cases hm), E3, R3, by omega, G3⟩
    case round =>
      obtain ⟨j, xs, t, q, hj, rfl, rfl, ht, hxl, hxs, ho, R, hq, G⟩ := hrel
      have hsr := G.size
      by_cases hlt2 : j < X
      · have i1 : (j : Int) < (X : Int) := by omega
        have HP4 := Lib.hid (pick_c wr B r from_.size q R (by omega) (by omega) (by omega))
        go_wp2_with fail
        refine HP4.out.mono ?_
        rintro e w4 ⟨k4, rfl, k40, k41, R4, g4⟩
        obtain ⟨K, rfl⟩ := Int.eq_ofNat_of_zero_le k40
        have ho4 := own_grown ho g4 (.inl (fun e => by have := own_block_ge ho r e; omega))
        have G4 := grown_trans G g4
        have hs4 := G4.size
        clear ho g4 G R HP4
        obtain ⟨c, hcc⟩ := one_of_size (s := from_.extract K (K + 1)) (by rw [ByteArray.size_extract]; omega)
        have HP5 := Lib.hid (pick_c w4 B r from_.size (q + 1) R4 (by omega) (by omega) (by omega))
        go_wp2_with fail
        refine HP5.out.mono ?_
        rintro e w5 ⟨k5, rfl, k50, k51, R5, g5⟩
        obtain ⟨J, rfl⟩ := Int.eq_ofNat_of_zero_le k50
        have ho5 := own_grown ho4 g5 (.inl (fun e => by have := own_block_ge ho4 r e; omega))
        have G5 := grown_trans G4 g5
        have hs5 := G5.size
        clear ho4 g5 G4 R4 HP5
        have hxi : (from_.extract J (J + 1)).size ≤ 64 := by rw [ByteArray.size_extract]; omega
        have HXA : Hid (∀ m ∈ xs ++ [(⟨#[c]⟩, from_.extract J (J + 1))], m.1.size ≤ 64 ∧ m.2.size ≤ 64) := fun m hm => by
          rcases List.mem_append.1 hm with h | h
          · exact hxs.out m h
          · have e : m = (⟨#[c]⟩, from_.extract J (J + 1)) := by simpa using h
            rw [e]
            exact ⟨by show 1 ≤ 64; omega, hxi⟩
        generalize hx2 : from_.extract J (J + 1) = x2 at *
        have hc1 : (ByteArray.mk #[c]).size = 1 := rfl
        rcases Bool.eq_false_or_eq_true (isP ⟨#[c]⟩) with hp | hp
        · by_cases hfi : indexByte t.data.toList c < 0
          · have t1 : decide (indexByte t.data.toList c < 0) = true := decide_eq_true hfi
            have hnw := two_new w5 (.string ⟨#[c]⟩) (.string x2) 60
            go_wp2_with (first | (go_at_call 47; refine (l1Place_c _ _).mono ?_; rintro e w' ⟨rfl, rfl⟩; rw [hp]) | (go_at_call 72; refine (l13Find_c t c _ (by omega)).mono ?_; rintro e w' ⟨rfl, rfl⟩) | (at_builtin; refine held ?_))
            unfold Held
            refine app_mv rfl (.tmp 46) (.tmp 54) rfl w.heap.size u3 xs (⟨#[c]⟩, x2) ⟨w5.heap.size, 0, none⟩ 1 (by rfl) (by rfl) (own_keep ho5 ((Below.refl _ _).alloc (Nat.le_refl _) _)) hnw (by omega) (by simp; omega) ?_
            intro v' w6 hown6 hgrow6
            have R6 := (R5.keep ((Below.refl _ _).alloc (Nat.le_refl _) (.cells #[.string ⟨#[c]⟩, .string x2] 60))).grow hgrow6 (fun g e => by have := own_block_ge ho5 g e; omega)
            have G6 := grown_over (grown_trans G5 (grown_below ((Below.refl _ _).alloc (Nat.le_refl _) (.cells #[.string ⟨#[c]⟩, .string x2] 60)) (some r))) hgrow6 (fun g e => own_block_ge ho5 g e)
            go_wp2
            go_roundw
            case rel => exact ⟨j + 1, xs ++ [(⟨#[c]⟩, x2)], t ++ ⟨#[c]⟩, _, by omega, by go_num, rfl, by rw [ByteArray.size_append]; omega, by simp; omega, HXA, hown6, R6, by omega, G6⟩
            case measure => simp [intOf] <;> omega
          · have t1 : decide (indexByte t.data.toList c < 0) = false := decide_eq_false hfi
            go_wp2_with (first | (go_at_call 47; refine (l1Place_c _ _).mono ?_; rintro e w' ⟨rfl, rfl⟩; rw [hp]) | (go_at_call 72; refine (l13Find_c t c _ (by omega)).mono ?_; rintro e w' ⟨rfl, rfl⟩))
            go_roundw
            case rel => exact ⟨j + 1, xs, t, _, by omega, by go_num, rfl, by omega, by omega, hxs, ho5, R5, by omega, G5⟩
            case measure => simp [intOf] <;> omega
        · have t1 : True := trivial
          go_wp2_with (first | (go_at_call 47; refine (l1Place_c _ _).mono ?_; rintro e w' ⟨rfl, rfl⟩; rw [hp]) | (go_at_call 72; refine (l13Find_c t c _ (by omega)).mono ?_; rintro e w' ⟨rfl, rfl⟩))
          go_roundw
          case rel => exact ⟨j + 1, xs, t, _, by omega, by go_num, rfl, by omega, by omega, hxs, ho5, R5, by omega, G5⟩
          case measure => simp [intOf] <;> omega
      · go_wp2
        go_ret
        exact ⟨_, xs, q, rfl, ho, ⟨by omega, hxs.out⟩, R, by omega, G⟩
end Go.Proofs.YtcpibkffeenehaaDoor
namespace Go.Proofs.YtcpibkffeenehaaDoor
open Go.RowKit Go.PM

set_option maxRecDepth 100000 in
set_option maxHeartbeats 1600000 in
theorem l1Some_c (w : World) (B r : Nat) (p : Int) (hr : Rdr w 95 B r p) (p1 : p ≤ 1000000) :
    Calls Tryd.prog 70 #[.pointer (some ⟨r, 0, none⟩)] w fun e w' => ∃ v xs p', e = .returned v ∧ w'.ownsRow w.heap.size 60 2 v xs.length (mcells xs) ∧ (xs.length ≤ 65 ∧ ∀ m ∈ xs, m.1.size ≤ 64 ∧ m.2.size ≤ 64) ∧ Rdr w' 95 B r p' ∧ p' ≤ p + 67 ∧ w.grownBy w' (some r) := by
  have hlt : r < w.heap.size := by obtain ⟨_, _, v, n, _, _, h⟩ := hr; exact h.lt
  have HD := Lib.hid (l1Draw_c w B r p hr (by omega))
  go_enter Tryd.func70, Tryd.ntmps70
  go_wp2_with fail
  refine HD.out.mono ?_
  rintro e w1 ⟨v, xs, p', rfl, ho, ⟨hl, hz⟩, R1, hp', g1⟩
  have HZ := Lib.hid hz
  have hs1 := g1.size
  clear HD hz
  have HP := Lib.hid (pick_c w1 B r 24 p' R1 (by omega) (by omega) (by omega))
  go_wp2_with fail
  refine HP.out.mono ?_
  rintro e w2 ⟨k, rfl, k0, k1, R2, g2⟩
  have ho2 := own_grown ho g2 (.inl (fun e => by have := own_block_ge ho r e; omega))
  have G2 := grown_trans g1 g2
  have hs2 := G2.size
  clear HP ho g1 g2 R1
  by_cases h0 : k = 0
  · subst h0
    go_wp2_with fail
    refine (of_c _ B r w2.heap.size 5 (p' + 1) (fun s => s.size ≤ 40) (R2.keep ((Below.refl _ _).alloc (Nat.le_refl _) _)) (by decide) (by decide) (by omega) (Lits.strs _ _ _ 40 (by rfl)) (by omega)).mono ?_
    rintro e w3 ⟨s1, rfl, hz1, R3, g3⟩
    have ho3 := own_grown (own_keep ho2 ((Below.refl _ _).alloc (Nat.le_refl _) _)) g3 (.inl (fun e => by have := own_block_ge ho2 r e; omega))
    have G3 := grown_trans G2 (grown_trans (grown_below ((Below.refl _ _).alloc (Nat.le_refl _) _) (some r)) g3)
    have hs3 := G3.size
    clear ho2 G2 R2 g3
    go_wp2_with fail
    refine (of_c _ B r w3.heap.size 5 (p' + 1 + 1) (fun s => s.size ≤ 40) (R3.keep ((Below.refl _ _).alloc (Nat.le_refl _) _)) (by decide) (by decide) (by omega) (Lits.strs _ _ _ 40 (by rfl)) (by omega)).mono ?_
    rintro e w4 ⟨s2, rfl, hz2, R4, g4⟩
    have ho4 := own_grown (own_keep ho3 ((Below.refl _ _).alloc (Nat.le_refl _) _)) g4 (.inl (fun e => by have := own_block_ge ho3 r e; omega))
    have G4 := grown_trans G3 (grown_trans (grown_below ((Below.refl _ _).alloc (Nat.le_refl _) _) (some r)) g4)
    have hs4 := G4.size
    clear ho3 G3 R3 g4
    have HXA : Hid (∀ m ∈ xs ++ [(s1, s2)], m.1.size ≤ 64 ∧ m.2.size ≤ 64) := fun m hm => by
      rcases List.mem_append.1 hm with h | h
      · exact HZ.out m h
      · have e : m = (s1, s2) := by simpa using h
        rw [e]
        exact ⟨by show s1.size ≤ 64; omega, by show s2.size ≤ 64; omega⟩
    have hnw := two_new w4 (.string s1) (.string s2) 60
    go_wp2_with (at_builtin; refine held ?_)
    unfold Held
    refine app_mv rfl (.tmp 9) (.tmp 17) rfl w.heap.size v xs (s1, s2) ⟨w4.heap.size, 0, none⟩ 1 (by rfl) (by rfl) (own_keep ho4 ((Below.refl _ _).alloc (Nat.le_refl _) _)) hnw (by omega) (by simp; omega) ?_
    intro v' w6 hown6 hgrow6
    have R6 := (R4.keep ((Below.refl _ _).alloc (Nat.le_refl _) (.cells #[.string s1, .string s2] 60))).grow hgrow6 (fun g e => by have := own_block_ge ho4 g e; omega)
    have G6 := grown_over (grown_trans G4 (grown_below ((Below.refl _ _).alloc (Nat.le_refl _) (.cells #[.string s1, .string s2] 60)) (some r))) hgrow6 (fun g e => own_block_ge ho4 g e)
    go_wp2
    go_ret
    exact ⟨_, xs ++ [(s1, s2)], _, rfl, hown6, ⟨by simp; omega, HXA.out⟩, R6, by omega, G6⟩
  · have t0 : (k == 0) = false := by simpa using h0
    go_wp2
    go_ret
    exact ⟨_, xs, _, rfl, ho2, ⟨by omega, HZ.out⟩, R2, by omega, G2⟩
end Go.Proofs.YtcpibkffeenehaaDoor
namespace Go.Proofs.YtcpibkffeenehaaDoor
open Go.RowKit Go.PM Go.PD Go.PF
theorem litsR (w : World) (t : TypeId) (cs : Array Value) (lo hi : Int) (h : cs.toList.all (fun u => match u with | .int .i64 x => decide (lo ≤ x) && decide (x ≤ hi) | _ => false) = true) : Lits (w.alloc (.cells cs t)) w.heap.size cs.size (fun u => ∃ x, u = .int .i64 x ∧ lo ≤ x ∧ x ≤ hi) :=
  Lits.new w t cs _ fun u hu => by
    have := List.all_eq_true.1 h u hu
    split at this
    · next x =>
      rw [Bool.and_eq_true, decide_eq_true_eq, decide_eq_true_eq] at this
      exact ⟨x, rfl, this.1, this.2⟩
    · cases this

set_option maxRecDepth 100000 in
set_option maxHeartbeats 1600000 in
theorem l10Draw_c (w : World) (B r : Nat) (p : Int) (hr : Rdr w 95 B r p) (p1 : p ≤ 500000) :
    Calls Tryd.prog 42 #[.pointer (some ⟨r, 0, none⟩)] w fun e w' => ∃ s t p', e = .returned (.tuple #[.string s, .string t]) ∧ Hid (s.size ≤ 20 ∧ t.size ≤ 20) ∧ Rdr w' 95 B r p' ∧ p' ≤ p + 20 ∧ w.grownBy w' (some r) := by
  have hlt : r < w.heap.size := by obtain ⟨_, _, v, n, _, _, h⟩ := hr; exact h.lt
  go_enter Tryd.func42, Tryd.ntmps42
  go_wp2_with fail
  refine (of_c _ B r w.heap.size 7 p (fun s => s.size ≤ 4) (hr.keep ((Below.refl _ _).alloc (Nat.le_refl _) _)) (by decide) (by decide) (by omega) (Lits.strs _ _ _ 4 (by rfl)) (by omega)).mono ?_
  rintro e w1 ⟨s, rfl, hs, R1, g1⟩
  have G1 := grown_trans (grown_below ((Below.refl w.heap.size w).alloc (Nat.le_refl _) _) (some r)) g1
  have hs1 := G1.size
  clear g1 hr
  go_wp2
  go_loopw [5, 11] (fun o i wr => ∃ (k : Nat) (t : ByteArray), k ≤ s.size ∧ i = .int .i64 k ∧ o = .string t ∧ t.size ≤ k ∧ Rdr wr 95 B r (p + 1 + k) ∧ w.grownBy wr (some r)) (fun _ i _ => s.size - (RowKit.intOf i).toNat)
  case atStart => exact ⟨0, ⟨#[]⟩, by omega, rfl, rfl, Nat.le_refl _, by simpa using R1, G1⟩
  case round =>
    clear R1 G1
    obtain ⟨k, t, hk, rfl, rfl, ht, R, G⟩ := hrel
    have hsr := G.size
    by_cases hlt2 : k < s.size
    · have i1 : (k : Int) < (s.size : Int) := by omega
      go_wp2_with fail
      refine (of_c _ B r wr.heap.size 8 (p + 1 + k) (fun s => s.size ≤ 1) (R.keep ((Below.refl _ _).alloc (Nat.le_refl _) _)) (by decide) (by decide) (by omega) (Lits.strs _ _ _ 1 (by rfl)) (by omega)).mono ?_
      rintro e w2 ⟨q, rfl, hq, R2, g2⟩
      have G2 := grown_trans G (grown_trans (grown_below ((Below.refl _ _).alloc (Nat.le_refl _) _) (some r)) g2)
      have hpp : p + 1 + ((k + 1 : Nat) : Int) = p + 1 + (k : Int) + 1 := by omega
      rw [← hpp] at R2
      have ht2 : (t ++ q).size ≤ k + 1 := by rw [ByteArray.size_append]; omega
      clear g2 R G hpp
      go_wp2
      go_roundw
      case rel => exact ⟨k + 1, t ++ q, by omega, by go_num, rfl, ht2, R2, G2⟩
      case measure => simp [RowKit.intOf]; omega
    · have i1 : ¬ (k : Int) < (s.size : Int) := by omega
      have HP := Lib.hid (pick_c wr B r 20 (p + 1 + k) R (by omega) (by omega) (by omega))
      have HPK : Hid (p + 1 + (k : Int) ≤ p + 5) := by show _ ≤ _; omega
      have HSZ : Hid (s.size ≤ 4 ∧ t.size ≤ 4) := ⟨hs, by omega⟩
      clear hk hlt2 R hs ht
      go_wp2_with fail
      refine HP.out.mono ?_
      rintro e w2 ⟨j, rfl, k0, k1, R2, g2⟩
      have G2 := grown_trans G g2
      have hs2 := G2.size
      clear g2 G
      by_cases h0 : j = 0
      · subst h0
        go_wp2_with fail
        refine (of_c _ B r w2.heap.size 3 _ (fun s => s.size ≤ 1) (R2.keep ((Below.refl _ _).alloc (Nat.le_refl _) _)) (by decide) (by decide) (by have := HPK.out; omega) (Lits.strs _ _ _ 1 (by rfl)) (by omega)).mono ?_
        rintro e w3 ⟨q, rfl, hq, R3, g3⟩
        have G3 := grown_trans G2 (grown_trans (grown_below ((Below.refl _ _).alloc (Nat.le_refl _) _) (some r)) g3)
        have hz := HSZ.out
        go_wp2
        go_ret2
        exact ⟨_, _, _, rfl, ⟨by omega, by rw [ByteArray.size_append]; omega⟩, R3, by have := HPK.out; omega, G3⟩
      · have t0 : (j == 0) = false := by simpa using h0
        by_cases h1 : j = 1
        · subst h1
          go_wp2_with fail
          refine (of_c _ B r w2.heap.size 5 _ (fun s => s.size ≤ 5) (R2.keep ((Below.refl _ _).alloc (Nat.le_refl _) _)) (by decide) (by decide) (by have := HPK.out; omega) (Lits.strs _ _ _ 5 (by rfl)) (by omega)).mono ?_
          rintro e w3 ⟨q, rfl, hq, R3, g3⟩
          have G3 := grown_trans G2 (grown_trans (grown_below ((Below.refl _ _).alloc (Nat.le_refl _) _) (some r)) g3)
          have hz := HSZ.out
          go_wp2
          go_ret2
          exact ⟨_, _, _, rfl, ⟨by omega, by omega⟩, R3, by have := HPK.out; omega, G3⟩
        · have t1 : (j == 1) = false := by simpa using h1
          have hz := HSZ.out
          by_cases h2 : j = 2
          · subst h2
            go_wp2
            go_ret2
            exact ⟨_, _, _, rfl, ⟨by omega, by omega⟩, R2, by have := HPK.out; omega, G2⟩
          · have t2 : (j == 2) = false := by simpa using h2
            go_wp2
            go_ret2
            exact ⟨_, _, _, rfl, ⟨by omega, by omega⟩, R2, by have := HPK.out; omega, G2⟩
set_option maxHeartbeats 800000 in
theorem drawMovesFor_c (w : World) (v : Value) (n : Nat) (hv : RdB w w.heap.size v n) :
    Calls Tryd.prog 13 #[v] w fun e w' => ∃ s t, e = .returned (.tuple #[.string s, .string t]) ∧ Hid (s.size ≤ 20 ∧ t.size ≤ 20) ∧ Below w.heap.size w w' := by
  have HO := Lib.hid (l13Open_c w v n hv)
  go_enter Tryd.func13, Tryd.ntmps13
  go_wp2_with fail
  refine HO.out.mono ?_
  rintro e w1 ⟨r, rfl, R1, b1⟩
  have hB := R1.1
  have HD := Lib.hid (l10Draw_c w1 _ r 0 R1 (by omega))
  go_wp2_with fail
  refine HD.out.mono ?_
  rintro e w2 ⟨s, t, p2, rfl, hz, R2, hp, g2⟩
  have B2 : Below w.heap.size w w2 := b1.trans (below_grown g2 b1.size (fun g e => by cases e; exact hB))
  go_wp2
  go_ret2
  exact ⟨_, _, rfl, hz, B2⟩
set_option maxRecDepth 100000 in
set_option maxHeartbeats 1600000 in
theorem drawCallAfter_c (w : World) (v : Value) (n : Nat) (hv : RdB w w.heap.size v n) :
    Calls Tryd.prog 28 #[v] w fun e w' => ∃ s t q, e = .returned (.tuple #[.string s, .string t, .string q]) ∧ Hid (s.size ≤ 20 ∧ t.size ≤ 20 ∧ q.size ≤ 20) ∧ Below w.heap.size w w' := by
  have HO := Lib.hid (l13Open_c w v n hv)
  go_enter Tryd.func28, Tryd.ntmps28
  go_wp2_with fail
  refine HO.out.mono ?_
  rintro e w1 ⟨r, rfl, R1, b1⟩
  have hB := R1.1
  have HD := Lib.hid (l10Draw_c w1 _ r 0 R1 (by omega))
  go_wp2_with fail
  refine HD.out.mono ?_
  rintro e w2 ⟨s, t, p2, rfl, hz, R2, hp, g2⟩
  have hlt : r < w1.heap.size := by obtain ⟨_, _, v, n, _, _, h⟩ := R1; exact h.lt
  have B2 : Below w.heap.size w w2 := b1.trans (below_grown g2 b1.size (fun g e => by cases e; exact hB))
  have hs2 := g2.size
  have hzs := hz.out
  have hn20 : s.size ≤ 20 := hzs.1
  have G0 : w2.grownBy w2 (some r) := grown_refl _ _
  clear HO HD R1 g2 hzs
  go_wp2
  go_loopw [8, 18] (fun o i wr => ∃ (k : Nat) (q : ByteArray), k ≤ s.size ∧ i = .int .i64 k ∧ o = .string q ∧ q.size ≤ k ∧ Rdr wr 95 w.heap.size r (p2 + k) ∧ w2.grownBy wr (some r)) (fun _ i _ => s.size - (RowKit.intOf i).toNat)
  case atStart => exact ⟨0, ⟨#[]⟩, by omega, rfl, rfl, Nat.le_refl _, by simpa using R2, G0⟩
  case round =>
    clear R2 G0
    obtain ⟨k, q, hk, rfl, rfl, hq, R, G⟩ := hrel
    have hsr := G.size
    by_cases hlt2 : k < s.size
    · have i1 : (k : Int) < (s.size : Int) := by omega
      go_wp2_with fail
      refine (of_c _ w.heap.size r wr.heap.size 6 (p2 + k) (fun s => s.size ≤ 1) (R.keep ((Below.refl _ _).alloc (Nat.le_refl _) _)) (by decide) (by decide) (by omega) (Lits.strs _ _ _ 1 (by rfl)) (by omega)).mono ?_
      rintro e w3 ⟨x, rfl, hx, R3, g3⟩
      have G3 := grown_trans G (grown_trans (grown_below ((Below.refl _ _).alloc (Nat.le_refl _) _) (some r)) g3)
      have hpp : p2 + ((k + 1 : Nat) : Int) = p2 + (k : Int) + 1 := by omega
      rw [← hpp] at R3
      have ht2 : (q ++ x).size ≤ k + 1 := by rw [ByteArray.size_append]; omega
      clear g3 R G hpp
      go_wp2
      go_roundw
      case rel => exact ⟨k + 1, q ++ x, by omega, by go_num, rfl, ht2, R3, G3⟩
      case measure => simp [RowKit.intOf]; omega
    · have i1 : ¬ (k : Int) < (s.size : Int) := by omega
      have B3 : Below w.heap.size w wr := B2.trans (below_grown G B2.size (fun g e => by cases e; exact hB))
      have hzz : Hid (s.size ≤ 20 ∧ t.size ≤ 20 ∧ q.size ≤ 20) := ⟨hz.out.1, hz.out.2, by omega⟩
      go_wp2
      refine bodyPost_ret (results_tmp3 Tryd.results28 _ _ _) rfl ?_
      exact ⟨_, _, _, rfl, hzz, B3⟩
set_option maxHeartbeats 800000 in
theorem drawLoopAfter_c (w : World) (v : Value) (n : Nat) (hv : RdB w w.heap.size v n) :
    Calls Tryd.prog 31 #[v] w fun e w' => ∃ s t x, e = .returned (.tuple #[.string s, .string t, .int .i64 x]) ∧ Hid (s.size ≤ 20 ∧ t.size ≤ 20 ∧ -1 ≤ x ∧ x ≤ 61) ∧ Below w.heap.size w w' := by
  have HO := Lib.hid (l13Open_c w v n hv)
  go_enter Tryd.func31, Tryd.ntmps31
  go_wp2_with fail
  refine HO.out.mono ?_
  rintro e w1 ⟨r, rfl, R1, b1⟩
  have hB := R1.1
  have HD := Lib.hid (l10Draw_c w1 _ r 0 R1 (by omega))
  go_wp2_with fail
  refine HD.out.mono ?_
  rintro e w2 ⟨s, t, p2, rfl, hz, R2, hp, g2⟩
  have hlt : r < w1.heap.size := by obtain ⟨_, _, v, n, _, _, h⟩ := R1; exact h.lt
  have B2 : Below w.heap.size w w2 := b1.trans (below_grown g2 b1.size (fun g e => by cases e; exact hB))
  have hs2 := g2.size
  clear HO HD R1
  go_wp2_with fail
  refine (num_c _ w.heap.size r w2.heap.size 8 p2 (fun x => -1 ≤ x ∧ x ≤ 61) (R2.keep ((Below.refl _ _).alloc (Nat.le_refl _) _)) (by decide) (by decide) (by omega) (litsR _ _ _ (-1) 61 (by rfl)) (by omega)).mono ?_
  rintro e w3 ⟨x, rfl, hx, R3, g3⟩
  have B3 : Below w.heap.size w w3 := (B2.alloc B2.size _).trans (below_grown g3 (by have := B2.size; simp; omega) (fun g e => by cases e; exact hB))
  have hzz : Hid (s.size ≤ 20 ∧ t.size ≤ 20 ∧ -1 ≤ x ∧ x ≤ 61) := ⟨hz.out.1, hz.out.2, hx.1, hx.2⟩
  go_wp2
  refine bodyPost_ret (results_tmp3 Tryd.results31 _ _ _) rfl ?_
  exact ⟨_, _, _, rfl, hzz, B3⟩
set_option maxRecDepth 100000 in
set_option maxHeartbeats 1600000 in
theorem drawArgsOf_c (w : World) (v : Value) (n : Nat) (hv : RdB w w.heap.size v n) :
    Calls Tryd.prog 36 #[v] w fun e w' => ∃ s u xs, e = .returned (.tuple #[.string s, u]) ∧ w'.ownsRow w.heap.size 60 2 u xs.length (mcells xs) ∧ Hid (s.size ≤ 20 ∧ xs.length ≤ 65 ∧ ∀ m ∈ xs, m.1.size ≤ 64 ∧ m.2.size ≤ 64) ∧ Below w.heap.size w w' := by
  have HO := Lib.hid (l13Open_c w v n hv)
  go_enter Tryd.func36, Tryd.ntmps36
  go_wp2_with fail
  refine HO.out.mono ?_
  rintro e w1 ⟨r, rfl, R1, b1⟩
  have hB := R1.1
  have HD := Lib.hid (l10Draw_c w1 _ r 0 R1 (by omega))
  go_wp2_with fail
  refine HD.out.mono ?_
  rintro e w2 ⟨s, t, p2, rfl, hz, R2, hp, g2⟩
  have hlt : r < w1.heap.size := by obtain ⟨_, _, v, n, _, _, h⟩ := R1; exact h.lt
  have B2 : Below w.heap.size w w2 := b1.trans (below_grown g2 b1.size (fun g e => by cases e; exact hB))
  have hs2 := g2.size
  have hs1 := b1.size
  have HM := Lib.hid (spMovesFor_c s t (by have := hz.out; omega) (by have := hz.out; omega) w2)
  have HSH : Hid ((clL s.data.toList t.data.toList).length ≤ 65 ∧ ∀ m ∈ clL s.data.toList t.data.toList, m.1.size ≤ 64 ∧ m.2.size ≤ 64) := by
    refine ⟨by have := clL_short s.data.toList t.data.toList; omega, fun m hm => ?_⟩
    unfold clL at hm
    split at hm
    · obtain ⟨x, _, rfl⟩ := List.mem_map.1 hm
      exact ⟨by show (1 : Nat) ≤ 64; decide, by show (1 : Nat) ≤ 64; decide⟩
    · cases hm
  have HL := Lib.hid (fun W q (R : Rdr W 95 w.heap.size r q) (hq : q ≤ 900000) => l1Some_c W w.heap.size r q R (by omega))
  clear HO HD R1 g2
  generalize clOk s.data.toList t.data.toList = ok at *
  generalize clL s.data.toList t.data.toList = cl at *
  go_wp2_with fail
  refine HM.out.mono ?_
  rintro e w3 ⟨u, rfl, hou, b3⟩
  have R3 := R2.keep b3
  have B3 : Below w.heap.size w w3 := B2.trans (b3.mono B2.size)
  have hs3 := b3.size
  clear HM R2 B2 b3
  cases ok
  case false =>
    go_wp2_with fail
    refine (HL.out _ _ R3 (by omega)).mono ?_
    rintro e w5 ⟨z, xs, p5, rfl, hoz, hsz, R5, hp5, g5⟩
    have HSZ := Lib.hid hsz
    have hz5 := own_more hoz (show w.heap.size ≤ w3.heap.size by omega)
    have B5 : Below w.heap.size w w5 := B3.trans (below_grown g5 (by omega) (fun g e => by cases e; exact hB))
    clear hsz
    go_wp2
    go_ret2
    exact ⟨_, _, xs, rfl, hz5, ⟨hz.out.1, HSZ.out⟩, B5⟩
  case true =>
    have HP := Lib.hid (pick_c w3 _ r 4 p2 R3 (by omega) (by omega) (by omega))
    go_wp2_with fail
    refine HP.out.mono ?_
    rintro e w4 ⟨k, rfl, k0, k1, R4, g4⟩
    have hu4 := own_more (own_grown hou g4 (.inl (fun e => by have := own_block_ge hou r e; omega))) (show w.heap.size ≤ w2.heap.size by omega)
    have hs4 := g4.size
    have B4 : Below w.heap.size w w4 := B3.trans (below_grown g4 (by omega) (fun g e => by cases e; exact hB))
    clear HP g4 B3 R3 hou
    by_cases h0 : 0 < k
    · have t0 : decide (k > 0) = true := decide_eq_true h0
      have t1 : decide (0 < k) = true := decide_eq_true h0
      clear h0
      go_wp2
      go_ret2
      exact ⟨_, _, cl, rfl, hu4, ⟨hz.out.1, HSH.out⟩, B4⟩
    · have t0 : decide (k > 0) = false := decide_eq_false h0
      have t1 : decide (0 < k) = false := decide_eq_false h0
      clear h0 hu4
      go_wp2_with fail
      refine (HL.out _ _ R4 (by omega)).mono ?_
      rintro e w5 ⟨z, xs, p5, rfl, hoz, hsz, R5, hp5, g5⟩
      have HSZ := Lib.hid hsz
      have hz5 := own_more hoz (show w.heap.size ≤ w4.heap.size by omega)
      have B5 : Below w.heap.size w w5 := B4.trans (below_grown g5 (by omega) (fun g e => by cases e; exact hB))
      clear hsz
      go_wp2
      go_ret2
      exact ⟨_, _, xs, rfl, hz5, ⟨hz.out.1, HSZ.out⟩, B5⟩
end Go.Proofs.YtcpibkffeenehaaDoor
namespace Go.PM
open Go.RowKit
/-- place p is the first one of a ring of moves that are read once each -/
def Clo (ws : List Mv) (p : Nat) : Prop := ∃ (n : Nat) (o : Nat → ByteArray), 0 < n ∧ o 0 = nm p ∧ o n = nm p ∧ ∀ k, k < n → (o k, o (k + 1)) ∈ ws ∧ rdN ws (o k) = 1 ∧ p ≤ pidx (o k)
theorem ring_wrap {o : Nat → ByteArray} {n k : Nat} (_h0 : 0 < n) (e : o n = o 0) (hk : k < n) : ∃ j, j < n ∧ o (k + 1) = o j := by
  by_cases h : k + 1 < n
  · exact ⟨k + 1, h, rfl⟩
  · exact ⟨0, by omega, by rw [show k + 1 = n by omega, e]⟩
theorem ring_prev {o : Nat → ByteArray} {n k : Nat} (h0 : 0 < n) (e : o n = o 0) (hk : k < n) : ∃ j, j < n ∧ o (j + 1) = o k := by
  by_cases h : k = 0
  · exact ⟨n - 1, by omega, by rw [show n - 1 + 1 = n by omega, e, h]⟩
  · exact ⟨k - 1, by omega, by rw [show k - 1 + 1 = k by omega]⟩
theorem one_reader {ws : List Mv} {a : ByteArray} (h : rdN ws a = 1) {x y : Mv} (hx : x ∈ ws) (hy : y ∈ ws) (ex : x.2 = a) (ey : y.2 = a) : x = y := by
  obtain ⟨i, hi, rfl⟩ := List.getElem_of_mem hx
  have h1 := rdN_erase ws i hi a
  rw [if_pos ex, h] at h1
  have h2 := rdN_zero.1 (show rdN (ws.eraseIdx i) a = 0 by omega)
  rcases erase_or hi hy with e | e
  · exact e.symm
  · exact absurd ey (h2 y e)
theorem redM_rdN {ws : List Mv} {m : Mv} (hne : m.1 ≠ m.2) {a : ByteArray} (h1 : a ≠ m.1) (h2 : a ≠ m.2) : rdN (redM m ws) a = rdN ws a := by
  unfold redM; split
  · rfl
  · exact (instM_rdN m.2 m.1 hne ws).2.2 a h2 h1
/-- a ring of moves that are read once each is what it was when one is done that can be done ahead of all others -/
theorem Clo.some_ {ws : List Mv} (hw : Wt ws) {i : Nat} (hi : i < ws.length) (hf : rdN ws ws[i].1 = 0) (p : Nat) : Clo (redM ws[i] (ws.eraseIdx i)) p ↔ Clo ws p := by
  have hm := List.getElem_mem hi
  have hne := hw.ne _ hm
  have hk1 := erase_key hw.keys hi
  constructor
  · rintro ⟨n, o, hn, e0, en, h⟩
    have een : o n = o 0 := en.trans e0.symm
    have hkey : ∀ k, k < n → (∃ x ∈ ws.eraseIdx i, x.1 = o k) := fun k hk => by
      have h1 := List.mem_map_of_mem (f := (·.1)) (h k hk).1
      rw [redM_keys] at h1
      obtain ⟨x, hx, e⟩ := List.mem_map.1 h1
      exact ⟨x, hx, e⟩
    have hnk : ∀ k, k < n → o k ≠ ws[i].1 := fun k hk e => by
      obtain ⟨x, hx, ex⟩ := hkey k hk
      exact hk1 x hx (ex.trans e)
    have hnm : ∀ k, k < n → o k ≠ ws[i].2 := fun k hk e => by
      obtain ⟨x, hx, ex⟩ := hkey k hk
      have hp := hw.to_ x (erase_mem hx)
      rw [ex, e] at hp
      have hr := (h k hk).2.1
      unfold redM at hr
      rw [if_neg (by rw [(isP_cases hp).1]; decide), e, (instM_rdN ws[i].2 ws[i].1 hne _).1] at hr
      cases hr
    refine ⟨n, o, hn, e0, en, fun k hk => ⟨?_, ?_, (h k hk).2.2⟩⟩
    · have hmem := (h k hk).1
      obtain ⟨j, hj, ej⟩ := ring_wrap hn een hk
      unfold redM at hmem
      split at hmem
      · exact erase_mem hmem
      · obtain ⟨x, hx, e1, (⟨e2, e3⟩ | ⟨e2, e3⟩)⟩ := instM_mem hmem
        · exact absurd (ej ▸ e3) (hnk j hj)
        · rw [e3]; exact erase_mem hx
    · have hr := (h k hk).2.1
      rw [redM_rdN hne (hnk k hk) (hnm k hk)] at hr
      rw [rdN_erase ws i hi, hr, if_neg (fun e => hnm k hk e.symm)]
  · rintro ⟨n, o, hn, e0, en, h⟩
    have een : o n = o 0 := en.trans e0.symm
    have hnk : ∀ k, k < n → o k ≠ ws[i].1 := fun k hk e => by
      have := (h k hk).2.1
      rw [e, hf] at this; cases this
    have hnm : ∀ k, k < n → o k ≠ ws[i].2 := fun k hk e => by
      obtain ⟨j, hj, ej⟩ := ring_prev hn een hk
      have := one_reader (h k hk).2.1 (h j hj).1 hm ej e.symm
      exact hnk j hj (by rw [← this])
    refine ⟨n, o, hn, e0, en, fun k hk => ⟨?_, ?_, (h k hk).2.2⟩⟩
    · have hmem : (o k, o (k + 1)) ∈ ws.eraseIdx i := by
        rcases erase_or hi (h k hk).1 with e | e
        · exact absurd (by rw [← e]) (hnk k hk)
        · exact e
      obtain ⟨j, hj, ej⟩ := ring_wrap hn een hk
      unfold redM
      split
      · exact hmem
      · unfold instM
        refine List.mem_map.2 ⟨_, hmem, ?_⟩
        rw [if_neg]
        show ¬ o (k + 1) = _
        rw [ej]; exact hnm j hj
    · rw [redM_rdN hne (hnk k hk) (hnm k hk)]
      have := rdN_erase ws i hi (o k)
      rw [if_neg (fun e => hnm k hk e.symm), (h k hk).2.1] at this
      omega
/-- the moves stand in the order of their places -/
def Srt (ws : List Mv) : Prop := ws.Pairwise fun a b => pidx a.1 < pidx b.1
theorem Srt.of_keys {ws vs : List Mv} (h : Srt ws) (e : vs.map (·.1) = ws.map (·.1)) : Srt vs := by
  have h1 : (ws.map (·.1)).Pairwise fun a b => pidx a < pidx b := List.pairwise_map.2 h
  rw [← e] at h1
  exact (List.pairwise_map (f := fun m : Mv => m.1) (R := fun a b => pidx a < pidx b)).1 h1
theorem Srt.erase {ws : List Mv} (h : Srt ws) (i : Nat) : Srt (ws.eraseIdx i) := List.Pairwise.sublist (List.eraseIdx_sublist ws i) h
theorem Srt.first {ws : List Mv} (h : Srt ws) (h0 : 0 < ws.length) : ∀ m ∈ ws, pidx ws[0].1 ≤ pidx m.1 := by
  cases ws with
  | nil => simp at h0
  | cons x xs =>
    intro m hm
    rw [List.mem_cons] at hm
    rcases hm with rfl | hm
    · exact Nat.le_refl _
    · exact Nat.le_of_lt ((List.pairwise_cons.1 h).1 m hm)
theorem pidx_inj {a b : ByteArray} (ha : isP a = true) (hb : isP b = true) (e : pidx a = pidx b) : a = b := by
  rw [← (pidx_spec ha).2, e, (pidx_spec hb).2]
theorem Clo.none_other {ws : List Mv} (hw : Wt ws) (hs : Srt ws) (h0 : 0 < ws.length) (hn : aheadI ws = none) {p : Nat} (hp : nm p ≠ ws[0].1) (hp9 : p < 9) : Clo (redM (spT, ws[0].1) ws) p ↔ Clo ws p := by
  obtain ⟨f1, f2, f3⟩ := hw.full hn
  have hm := List.getElem_mem h0
  have hc := isP_cases (hw.to_ _ hm)
  have hne : (spT : ByteArray) ≠ ws[0].1 := fun e => hc.2 e.symm
  have hr : redM (spT, ws[0].1) ws = instM ws[0].1 spT ws := by
    unfold redM; rw [if_neg (by show ¬ isD ws[0].1 = true; rw [hc.1]; decide)]
  rw [hr]
  obtain ⟨r1, _, r3⟩ := instM_rdN ws[0].1 spT hne ws
  constructor
  · rintro ⟨n, o, hn', e0, en, h⟩
    have een : o n = o 0 := en.trans e0.symm
    have hkey : ∀ k, k < n → (∃ x ∈ ws, x.1 = o k) := fun k hk => by
      have h1 := List.mem_map_of_mem (f := (·.1)) (h k hk).1
      rw [instM_keys] at h1
      obtain ⟨x, hx, e⟩ := List.mem_map.1 h1
      exact ⟨x, hx, e⟩
    have hnt : ∀ k, k < n → o k ≠ spT := fun k hk e => by
      obtain ⟨x, hx, ex⟩ := hkey k hk
      exact (isP_cases (hw.to_ x hx)).2 (ex.trans e)
    have hnm : ∀ k, k < n → o k ≠ ws[0].1 := fun k hk e => by
      have := (h k hk).2.1
      rw [e, r1] at this; cases this
    refine ⟨n, o, hn', e0, en, fun k hk => ⟨?_, ?_, (h k hk).2.2⟩⟩
    · obtain ⟨j, hj, ej⟩ := ring_wrap hn' een hk
      obtain ⟨x, hx, e1, (⟨e2, e3⟩ | ⟨e2, e3⟩)⟩ := instM_mem (h k hk).1
      · exact absurd (ej ▸ e3) (hnt j hj)
      · rw [e3]; exact hx
    · have := (h k hk).2.1
      rwa [r3 _ (hnm k hk) (hnt k hk)] at this
  · rintro ⟨n, o, hn', e0, en, h⟩
    have een : o n = o 0 := en.trans e0.symm
    have hnm : ∀ k, k < n → o k ≠ ws[0].1 := fun k hk e => by
      have h1 := (h k hk).2.2
      have h2 := hs.first h0 _ (h 0 hn').1
      simp only [e0, pidx_nm hp9] at h2
      rw [e] at h1
      exact hp (pidx_inj (isP_nm hp9) (hw.to_ _ hm) (by rw [pidx_nm hp9]; omega))
    have hnt : ∀ k, k < n → o k ≠ spT := fun k hk e => by
      exact (isP_cases (hw.to_ _ (h k hk).1)).2 e
    refine ⟨n, o, hn', e0, en, fun k hk => ⟨?_, ?_, (h k hk).2.2⟩⟩
    · obtain ⟨j, hj, ej⟩ := ring_wrap hn' een hk
      unfold instM
      refine List.mem_map.2 ⟨_, (h k hk).1, ?_⟩
      rw [if_neg]
      show ¬ o (k + 1) = _
      rw [ej]; exact hnm j hj
    · rw [r3 _ (hnm k hk) (hnt k hk)]; exact (h k hk).2.1
theorem pigeon : ∀ (n : Nat) (f : Nat → Nat), (∀ k, k ≤ n → f k < n) → ∃ i j, i < j ∧ j ≤ n ∧ f i = f j := by
  intro n f h
  refine Classical.byContradiction fun hno => ?_
  have hnd : ((List.range (n + 1)).map f).Nodup := by
    rw [List.nodup_iff_pairwise_ne, List.pairwise_map]
    refine List.Pairwise.imp_of_mem ?_ (List.pairwise_lt_range (n := n + 1))
    intro a b _ hb hab e
    exact hno ⟨a, b, hab, by have := List.mem_range.1 hb; omega, e⟩
  have := nodup_le ((List.range (n + 1)).map f) (List.range n) hnd (fun a ha => by
    obtain ⟨k, hk, rfl⟩ := List.mem_map.1 ha
    exact List.mem_range.2 (h k (by have := List.mem_range.1 hk; omega)))
  simp at this
  omega
theorem Clo.none_self {ws : List Mv} (hw : Wt ws) (hs : Srt ws) (h0 : 0 < ws.length) (hn : aheadI ws = none) : Clo ws (pidx ws[0].1) ∧ ¬ Clo (redM (spT, ws[0].1) ws) (pidx ws[0].1) := by
  obtain ⟨f1, f2, f3⟩ := hw.full hn
  have hm := List.getElem_mem h0
  have hP := hw.to_ _ hm
  have hc := isP_cases hP
  have hne : (spT : ByteArray) ≠ ws[0].1 := fun e => hc.2 e.symm
  have hnm := (pidx_spec hP).2
  constructor
  · -- go round
    let nx : ByteArray → ByteArray := fun a => srcM ws a
    have hMV : MV ws := ⟨fun m hm => by
      unfold mok isS
      rw [hw.to_ m hm, Bool.true_and, Bool.or_eq_true]
      rcases hw.from_ m hm with h | h | h
      · exact .inl h
      · exact .inr h
      · exact absurd h (rdN_zero.1 f3 m hm), hw.keys⟩
    have hnx : ∀ m ∈ ws, nx m.1 = m.2 := fun m hm => srcM_of_mem hMV hm
    obtain ⟨o, ho0, hos⟩ : ∃ o : Nat → ByteArray, o 0 = ws[0].1 ∧ ∀ k, o (k + 1) = nx (o k) := ⟨fun k => Nat.rec ws[0].1 (fun _ a => nx a) k, rfl, fun _ => rfl⟩
    have hin : ∀ k, (o k, o (k + 1)) ∈ ws := by
      intro k
      induction k with
      | zero =>
        rw [hos, ho0, hnx _ hm]; exact hm
      | succ k ih =>
        obtain ⟨x, hx, ex⟩ := f2 _ ih
        have e1 : x.1 = o (k + 1) := ex
        rw [hos (k + 1), ← e1, hnx x hx]; exact hx
    have hisP : ∀ k, isP (o k) = true := fun k => hw.to_ _ (hin k)
    obtain ⟨i, j, hij, hj, e⟩ := pigeon 9 (fun k => pidx (o k)) (fun k _ => (pidx_spec (hisP k)).1)
    have e' : o i = o j := pidx_inj (hisP i) (hisP j) e
    have back : ∀ d, d ≤ i → o (i - d) = o (j - d) := by
      intro d
      induction d with
      | zero => intro _; exact e'
      | succ d ih =>
        intro hd
        have h1 := ih (by omega)
        have a1 := hin (i - (d + 1))
        have a2 := hin (j - (d + 1))
        have a3 := hin (i - d)
        rw [show i - (d + 1) + 1 = i - d by omega] at a1
        rw [show j - (d + 1) + 1 = j - d by omega, ← h1] at a2
        have := one_reader (f1 _ a3) a1 a2 rfl rfl
        exact congrArg (·.1) this
    have e0 := back i (Nat.le_refl _)
    rw [Nat.sub_self] at e0
    refine ⟨j - i, o, by omega, ho0.trans hnm.symm, by rw [← e0, ho0, hnm], fun k hk => ⟨hin k, f1 _ (hin k), hs.first h0 _ (hin k)⟩⟩
  · rintro ⟨n, o, hn', e0, en, h⟩
    have hr : redM (spT, ws[0].1) ws = instM ws[0].1 spT ws := by
      unfold redM; rw [if_neg (by show ¬ isD ws[0].1 = true; rw [hc.1]; decide)]
    have := (h 0 hn').2.1
    rw [e0, hnm, hr, (instM_rdN ws[0].1 spT hne ws).1] at this
    cases this
noncomputable def cloB (ws : List Mv) (p : Nat) : Bool := @decide (Clo ws p) (Classical.propDecidable _)
theorem cloB_iff {ws : List Mv} {p : Nat} : cloB ws p = true ↔ Clo ws p := @decide_eq_true_iff _ (Classical.propDecidable _)
theorem cloB_no {ws : List Mv} {p : Nat} : cloB ws p = false ↔ ¬ Clo ws p := @decide_eq_false_iff_not _ (Classical.propDecidable _)
theorem cloB_eq {ws vs : List Mv} {p : Nat} (h : Clo ws p ↔ Clo vs p) : cloB ws p = cloB vs p := by
  rw [Bool.eq_iff_iff, cloB_iff, cloB_iff]; exact h
noncomputable def cloN (ws : List Mv) : Nat := ((List.range 9).filter (cloB ws)).length
theorem cloN_congr {ws vs : List Mv} (h : ∀ p, p < 9 → (Clo ws p ↔ Clo vs p)) : cloN ws = cloN vs := by
  unfold cloN
  congr 1
  exact List.filter_congr fun p hp => cloB_eq (h p (List.mem_range.1 hp))
theorem filter_less {α : Type _} [DecidableEq α] (P Q : α → Bool) (a : α) : ∀ l : List α, l.Nodup → a ∈ l → P a = true → Q a = false → (∀ b ∈ l, b ≠ a → Q b = P b) → (l.filter P).length = (l.filter Q).length + 1
  | [], _, h, _, _, _ => by cases h
  | x :: l, hn, ha, hP, hQ, hb => by
    rw [List.nodup_cons] at hn
    by_cases e : x = a
    · subst e
      have e2 : l.filter P = l.filter Q := List.filter_congr fun b hbm => ((hb b (by simp [hbm])) fun e => hn.1 (e ▸ hbm)).symm
      simp [hP, hQ, e2]
    · have ha' : a ∈ l := by
        rw [List.mem_cons] at ha
        exact ha.resolve_left fun e' => e e'.symm
      have ih := filter_less P Q a l hn.2 ha' hP hQ fun b hbm => hb b (by simp [hbm])
      have hx := hb x (by simp) e
      rw [List.filter_cons, List.filter_cons, hx]
      split
      · simp only [List.length_cons]; omega
      · exact ih
/-- an order takes a step for each move and one for each closed ring -/
theorem ordF_count : ∀ (n : Nat) (ws : List Mv), Wt ws → Srt ws → muW ws ≤ n → (ordF n ws).length = ws.length + cloN ws ∧ ((ordF n ws).any (fun m => decide (m.1 = spT)) = decide (0 < cloN ws)) := by
  have hz : cloN [] = 0 := by
    unfold cloN
    rw [List.length_eq_zero_iff, List.filter_eq_nil_iff]
    intro p _ h
    obtain ⟨n, o, hn, _, _, h⟩ := cloB_iff.1 h
    cases (h 0 hn).1
  intro n
  induction n with
  | zero =>
    intro ws _ _ hmu
    have : ws = [] := List.length_eq_zero_iff.1 (by unfold muW at hmu; omega)
    subst this
    rw [hz]; exact ⟨rfl, rfl⟩
  | succ n ih =>
    intro ws hw hs hmu
    by_cases h0 : 0 < ws.length
    · cases ha : aheadI ws with
      | some i =>
        obtain ⟨hi, hf⟩ := aheadI_some ha
        have e := cloN_congr fun p _ => Clo.some_ hw hi hf p
        obtain ⟨i1, i2⟩ := ih _ (hw.some_ hi hf) ((hs.erase i).of_keys (redM_keys _ _)) (by have := muW_some hi ws[i]; omega)
        rw [e, redM_len, List.length_eraseIdx_of_lt hi] at i1
        rw [e] at i2
        rw [ordF_some hi ha, List.length_cons, List.any_cons, i2, i1]
        refine ⟨by omega, ?_⟩
        have : ¬ ws[i].1 = spT := (isP_cases (hw.to_ _ (List.getElem_mem hi))).2
        simp [this]
      | none =>
        have hself := Clo.none_self hw hs h0 ha
        have hP := hw.to_ _ (List.getElem_mem h0)
        have hp := pidx_spec hP
        have e : cloN ws = cloN (redM (spT, ws[0].1) ws) + 1 := by
          unfold cloN
          refine filter_less _ _ (pidx ws[0].1) _ List.nodup_range (List.mem_range.2 hp.1) (cloB_iff.2 hself.1) (cloB_no.2 hself.2) fun b hb hne => ?_
          have hb9 := List.mem_range.1 hb
          refine cloB_eq (Clo.none_other hw hs h0 ha (fun e => hne ?_) hb9)
          rw [← e, pidx_nm hb9]
        obtain ⟨i1, _⟩ := ih _ (hw.none_ h0 ha).1 (hs.of_keys (redM_keys _ _)) (by have := muW_none hw h0 ha; omega)
        rw [redM_len] at i1
        rw [ordF_none h0 ha, List.length_cons, List.any_cons, i1]
        refine ⟨by omega, ?_⟩
        have : 0 < cloN ws := by omega
        simp [this]
    · have : ws = [] := List.length_eq_zero_iff.1 (by omega)
      subst this
      rw [ordF_nil, hz]; exact ⟨rfl, rfl⟩
theorem busyF_Srt (xs : List Mv) : Srt (busyF xs 9) := by
  unfold Srt busyF
  rw [List.pairwise_map]
  refine List.Pairwise.imp_of_mem ?_ ((List.pairwise_lt_range (n := 9)).filter (busyH xs))
  intro a b ha hb hab
  have h1 := List.mem_range.1 (List.mem_filter.1 ha).1
  have h2 := List.mem_range.1 (List.mem_filter.1 hb).1
  show pidx (nm a) < pidx (nm b)
  rw [pidx_nm h1, pidx_nm h2]; exact hab
end Go.PM
namespace Go.PM
open Go.RowKit
section
variable {P : Program} {ops : Array Oper} {rest : List Oper} {o : Oper} {a : Act} {w : World} {Q : Exit → Act → World → Prop}
def bytesC (s : ByteArray) : Array Value := s.data.map fun b => .int .u8 b.toNat
theorem bytesC_size (s : ByteArray) : (bytesC s).size = s.size := by simp [bytesC]
/-- a string is copied over a whole row -/
theorem run_copy_text (dT sT ty elem : TypeId) (hu : P.underlying dT = some (.slice elem)) (hsz : (P.info? elem).map (·.size) = some 1) (b : Nat) (t : TypeId) (cur : Array Value) (hA : At w b t cur) (cap : Nat) (s : ByteArray) (hcur : cur.size = s.size) :
    (Builtin.copy_ #[dT, sT] ty #[.slice (some ⟨b, 0, none⟩) s.size cap, .string s]).run P w = .ok (goInt s.size) (w.setRow b (bytesC s)) := by
  have h1 : ∀ v ∈ (bytesC s).toList, v.oneCell' = true := by
    intro v hv
    simp [bytesC] at hv
    obtain ⟨x, _, rfl⟩ := hv
    rfl
  have hst := run_storeCells_at P b 0 t (bytesC s).toList 0 cur w hA (by simp [bytesC_size, hcur]) h1
  have e : (cur.toList.take (0 + 0) ++ (bytesC s).toList ++ cur.toList.drop (0 + 0 + (bytesC s).toList.length)).toArray = bytesC s := by
    have : cur.toList.drop (0 + 0 + (bytesC s).toList.length) = [] := by
      rw [List.drop_eq_nil_iff]; simp [bytesC_size, hcur]
    rw [this]; simp
  cases hq : P.info? elem with
  | none => simp [hq] at hsz
  | some i =>
    have hi : i.size = 1 := by simpa [hq] using hsz
    rw [e] at hst
    have hx : List.take s.size (List.map (fun b : UInt8 => Value.int .u8 (b.toNat : Int)) s.data.toList) = (bytesC s).toList := by
      rw [List.take_of_length_le (by simp)]
      simp [bytesC]
    unfold Builtin.copy_
    simp [run_underlying hu w, Builtin.lenOf, Builtin.firstCells, sizeOf, typeInfo, hq]
    rw [hx, hst]
    rfl
theorem cp_text (hgd : o.guard = none) (d s : Operand) (dT sT : TypeId) (ho : o.op = .call { callee := .builtin .copy, args := #[d, s], argTypes := #[dT, sT] }) (elem : TypeId) (hu : P.underlying dT = some (.slice elem)) (hsz : (P.info? elem).map (·.size) = some 1)
    (b : Nat) (t : TypeId) (cur : Array Value) (hA : At w b t cur) (cap : Nat) (x : ByteArray) (hd : a.eval d = .slice (some ⟨b, 0, none⟩) x.size cap) (hs : a.eval s = .string x) (hcur : cur.size = x.size)
    (h : ∀ w', At w' b t (bytesC x) → w.grownBy w' (some b) → wpList P ops Q rest (a.put o.dst (goInt x.size)) w') : wpList P ops Q (o :: rest) a w := by
  refine wpList_plain hgd fun K hK => ?_
  have hrun := run_copy_text (P := P) dT sT o.type elem hu hsz b t cur hA cap x hcur
  unfold Oper.wp
  simp [execOp, ho, resolve, invoke, builtin, hd, hs, hrun, Result.andThen]
  exact hK _ _ (h _ (At.setRow hA _) (grown_setRow _ _ _))
end
end Go.PM
namespace Go.PM
open Go.RowKit
def nmS : Nat → UInt8 := fun q => cellsL.getD q 0
theorem bytes_nmS : bytesC cellsB = stC nmS := by simp [bytesC, cellsB, stC, nmS, cellsL]
def wspS (f g : Nat → UInt8) : Nat → UInt8 := fun q => if q < 9 then f q else g q
end Go.PM
namespace Go.Proofs.YtcpibkffeenehaaDoor
open Go.RowKit Go.PM

end Go.Proofs.YtcpibkffeenehaaDoor
namespace Go.Proofs.YtcpibkffeenehaaDoor
open Go.RowKit Go.PM

end Go.Proofs.YtcpibkffeenehaaDoor
namespace Go.PM
open Go.RowKit
def aoP (t : Nat → ByteArray) (f : Nat → UInt8) (n : Nat) : Nat → UInt8 := fun q => if q < n then rdS f (srcT t q) else f q
theorem aoP_zero (t : Nat → ByteArray) (f : Nat → UInt8) : aoP t f 0 = f := by funext q; simp [aoP]
theorem aoP_nine (t : Nat → ByteArray) (f : Nat → UInt8) : aoP t f 9 = aoS t f := rfl
theorem aoP_succ (t : Nat → ByteArray) (f : Nat → UInt8) (p : Nat) : updS (aoP t f p) p (rdS f (srcT t p)) = aoP t f (p + 1) := by
  funext q
  unfold updS aoP
  by_cases h : q = p
  · subst h; simp
  · by_cases h2 : q < p
    · simp [h, h2, Nat.lt_succ_of_lt h2]
    · have : ¬ q < p + 1 := by omega
      simp [h, h2, this]
end Go.PM
namespace Go.Proofs.YtcpibkffeenehaaDoor
open Go.RowKit Go.PM
attribute [local go_sem] Oper.semAt_some

set_option maxRecDepth 100000 in
set_option maxHeartbeats 2000000 in
theorem atOnce_c (t : Nat → ByteArray) (f : Nat → UInt8) (ht : ∀ p, p < 9 → okC (srcT t p) = true) (w : World) :
    Calls Tryd.prog 56 #[stV f, tabX t] w fun e w' => e = .returned (stV (aoS t f)) ∧ Below w.heap.size w w' := by
  change Calls Tryd.prog _ #[stV f, tabV t] w _
  have HR : ∀ (tmps : Array Value) (W : World) (g : Nat → UInt8) (b : Nat), At W b 70 (stC g) → tmps.getD 4 undef = .pointer (some ⟨b, 0, none⟩) →
      (results Tryd.f56 tmps).run Tryd.prog W = .ok (stV g) W := fun tmps W g b hA h4 =>
    results_row1 Tryd.results56 tmps W _ _ _ h4 hA 11 5 Tryd.underlying70 (by kernel_rfl)
  refine (callsIn_wide (n := 5)).1 ?_
  refine callsIn_of_wp_marks Tryd.func56 rfl trivial ?_ rfl
  simp only [Tryd.ntmps56, List.size_toArray, List.length_cons, List.length_nil, Nat.reduceAdd, Nat.reduceSub, Array.replicate_succ, Array.replicate_zero, List.push_toArray, List.append_toArray, List.nil_append, List.cons_append]
  obtain ⟨W0, hW0⟩ : ∃ W0 : World, W0 = (((w.alloc (.cells (stC f) 70)).alloc (.cells (tabC t) 63)).alloc (.cells zSA 70)).alloc (.cells zSA 70) := ⟨_, rfl⟩
  have hB0 : Below w.heap.size w W0 := by rw [hW0]; (repeat' (first | (with_reducible exact Below.refl _ _) | (with_reducible assumption) | (with_reducible refine Below.alloc ?_ ?_ _) | (with_reducible refine Below.drew ?_) | (with_reducible refine Below.setCell ?_ ?_ _) | (with_reducible exact Nat.le_refl _) | omega | ((repeat (first | rewrite [World.size_alloc] | rewrite [World.size_setCell] | rewrite [World.size_drew])); omega) | (simp; omega) | (simp; done)))
  have hS0 : W0.heap.size = w.heap.size + 4 := by rw [hW0]; simp only [World.size_alloc]
  have hA0 : At W0 w.heap.size 70 (stC f) := by rw [hW0]; exact (((At.new _ _ _).alloc _).alloc _).alloc _
  have hA1 : At W0 (w.heap.size + 1) 63 (tabC t) := by
    rw [hW0]; have := At.new (w.alloc (.cells (stC f) 70)) 63 (tabC t)
    rw [World.size_alloc] at this; exact (this.alloc _).alloc _
  have hA2 : At W0 (w.heap.size + 1 + 1) 70 zSA := by
    rw [hW0]; have := At.new ((w.alloc (.cells (stC f) 70)).alloc (.cells (tabC t) 63)) 70 zSA
    rw [World.size_alloc, World.size_alloc] at this; exact this.alloc _
  have hA3 : At W0 (w.heap.size + 1 + 1 + 1) 70 zSA := by
    rw [hW0]; have := At.new (((w.alloc (.cells (stC f) 70)).alloc (.cells (tabC t) 63)).alloc (.cells zSA 70)) 70 zSA
    rwa [World.size_alloc, World.size_alloc, World.size_alloc] at this
  have hl0 : At (((w.alloc (.cells (stC f) 70)).alloc (.cells (tabC t) 63)).alloc (.cells zSA 70)) w.heap.size 70 (stC f) := ((At.new _ _ _).alloc _).alloc _
  gi_wp2_with (first | (refine ldIn_row rfl 70 (.tmp 2) rfl w.heap.size 70 (stC f) hl0 (by rfl) 11 5 Tryd.underlying70 (by kernel_rfl) ?_) | (rw [← hW0]; refine stIn_row rfl 70 (.tmp 5) (.tmp 7) rfl rfl (w.heap.size + 1 + 1 + 1) 70 zSA (stC f) hA3 (by rfl) (by rfl) (by kernel_rfl) rfl (stC_one _) ?_; intro W5 hA5 hg5))
  have k0 := hA0.grown hg5 (by simp; omega)
  have k1 := hA1.grown hg5 (by simp)
  have k2 := hA2.grown hg5 (by simp)
  have kB : Below w.heap.size w W5 := hB0.trans (below_grown hg5 hB0.size (fun g hg => by cases hg; omega))
  have kS : w.heap.size + 4 ≤ W5.heap.size := by have := hg5.size; omega
  clear hA0 hA1 hA2 hA3 hl0 hg5 hB0 hS0 hW0
  refine range_law (F := Fence.wide) (gf := 88) (lf := #[.int .i64 9]) (lb := #[]) rfl (by decide) rfl trivial (fun args w => rfl) (encs := fun p : Nat => #[.int .i64 p]) (xs := List.range 9)
    (below_iter _ _ trivial rfl (by decide)) (fun _ => rfl)
    (fun pre W => At W w.heap.size 70 (stC f) ∧ At W (w.heap.size + 1) 63 (tabC t) ∧ At W (w.heap.size + 1 + 1) 70 zSA ∧ At W (w.heap.size + 1 + 1 + 1) 70 (stC (aoP t f pre.length)) ∧ Below w.heap.size w W)
    (fun _ _ _ => False) ?_ (fun _ => ownFrom_pure _ _) ?_ (fun p => { tmps := #[stV f, tabV t, .pointer (some ⟨w.heap.size, 0, none⟩), .pointer (some ⟨w.heap.size + 1, 0, none⟩), .pointer (some ⟨w.heap.size + 1 + 1, 0, none⟩), .pointer (some ⟨w.heap.size + 1 + 1 + 1, 0, none⟩), .int .i64 p, stV f, .func (.func 88) #[.int .i64 9] #[], .int .i64 p, undef, undef, undef, undef, undef, undef, undef, undef], defers := [] }) ?_ ?_ ?_ ?_
  · rintro s A A' row ⟨h1, h2, h3, h4, h5⟩ hg hr
    have hr' : ∀ r, row = some r → w.heap.size + 4 ≤ r := fun r e => by have := (hr r e).1; omega
    have hne : ∀ b, b < w.heap.size + 4 → some b ≠ row := fun b hb e => by have := hr' _ e.symm; omega
    exact ⟨h1.grown hg (hne _ (by omega)), h2.grown hg (hne _ (by omega)), h3.grown hg (hne _ (by omega)), h4.grown hg (hne _ (by omega)), h5.trans (below_grown hg h5.size (fun g e => by have := hr' _ e; omega))⟩
  · exact ⟨k0, k1, k2, by rw [List.length_nil, aoP_zero]; exact hA5, kB⟩
  · intro l p W Kc hK
    gi_wp2
    exact hK
  · clear k0 k1 k2 kB hA5
    rintro l pre p W ⟨h1, h2, h3, h4, h5⟩ hp hsz
    obtain ⟨hl, hp9⟩ := pre_len pre p hp
    rw [hl] at h4
    have HL : Hid ((pre ++ [p]).length = p + 1) := by show _ = _; simp [hl]
    have hst := stC_set (aoP t f p) p (by omega) (rdS f (srcT t p))
    rw [aoP_succ] at hst
    have HST := Lib.hid hst
    have hpc := stC_at (aoP t f p) p (by omega)
    have hS : ∀ x : Ext W.heap.size W.drew, Calls Tryd.prog 90 #[tabX t, .int .i64 p] x.val fun e w' => e = .returned (.string (srcT t p)) ∧ Below x.val.heap.size x.val w' := fun x => source_c t p hp9 x.val
    have hR : ∀ x : Ext W.heap.size W.drew, Calls Tryd.prog 89 #[stV f, .string (srcT t p)] x.val fun e w' => e = .returned (.int .u8 (rdS f (srcT t p)).toNat) ∧ Below x.val.heap.size x.val w' := fun x => read_c f _ (ht p hp9) x.val
    have hC1 := At.ext (W := W.drew) (B := W.heap.size) h1 h1.lt
    have hC2 := At.ext (W := W.drew) (B := W.heap.size) h2 h2.lt
    clear hst hl
    generalize aoP t f p = g at *
    generalize hg2 : aoP t f (p + 1) = g2 at *
    have HG2 := Lib.hid hg2
    clear hg2
    generalize rdS f (srcT t p) = v at *
    generalize srcT t p = q at *
    have i0 : (0 : Int) ≤ (p : Int) := by omega
    have i1 : (p : Int) < 11 := by omega
    gi_wp2
    refine region_tail_inRound (F := Fence.wide) (C := fun w' => ∃ x : Ext W.heap.size W.drew, w' = x.val) 7 rfl (by kernel_rfl) (by kernel_rfl) (by kernel_rfl) ⟨⟨_, Below.refl _ _⟩, rfl⟩ ?_
    simp only [List.take_succ_cons, List.take_zero, List.drop_succ_cons, List.drop_zero]
    gi_big_quiet_step (fail)
    refine rowIn_step rfl 70 (.tmp 2) rfl w.heap.size 70 (stC f) (by rfl) hC1 11 5 Tryd.underlying70 (by kernel_rfl) ?_
    simp only [Act.put, List.setIfInBounds_toArray, List.set_cons_succ, List.set_cons_zero]
    refine rowIn_step rfl 63 (.tmp 3) rfl (w.heap.size + 1) 63 (tabC t) (by rfl) hC2 9 9 Tryd.underlying63 (by kernel_rfl) ?_
    simp only [Act.put, List.setIfInBounds_toArray, List.set_cons_succ, List.set_cons_zero]
    gi_big_quiet_step (fail)
    (refine BigFrame.wpQuietIn_want (fun _ _ _ _ => trivial) rfl (fun K hK => ?_); gi_big_quiet_op; refine ⟨_, fun _ => callsIn_wide.2 (ext_call _ (Nat.le_refl _) (hS _)), hK _ ?_⟩; clear hK K)
    (refine BigFrame.wpQuietIn_want (fun _ _ _ _ => trivial) rfl (fun K hK => ?_); gi_big_quiet_op; refine ⟨_, fun _ => callsIn_wide.2 (ext_call _ (Nat.le_refl _) (hR _)), hK _ ?_⟩; clear hK K)
    gi_big_quiet_step (fail)
    refine wpQuietIn_nil ?_
    rintro W2 ⟨xw, rfl⟩
    have hb2 : Below W.heap.size W xw.val := ((Below.refl _ _).drew).trans xw.property
    clear hC1 hC2 hS hR
    generalize xw.val = W2 at *
    have m1 := h1.keep hb2
    have m2 := h2.keep hb2
    have m3 := h3.keep hb2
    have m4 := h4.keep hb2
    have m5 := h5.trans (hb2.mono h5.size)
    have mc := (m4.cell p).trans hpc
    have mf := m4.frozen p
    clear h1 h2 h3 h4 h5
    gi_wp2
    refine ⟨(keepsFrom_below hb2).trans ((KeepsOthers.setCell _ _ _).from _), KeepsIn.zero (by simp [World.size_setCell]; exact hb2.size), m1.far (by simp; omega) _, m2.far (by simp) _, m3.far (by simp) _, ?_, m5.setCell (by simp; omega) _⟩
    rw [HL.out, HG2.out, ← HST.out]
    exact m4.set p _
  · clear k0 k1 k2 kB hA5
    intro D W hD hI hd
    obtain ⟨h1, h2, h3, h4, h5⟩ := hI
    have h4' : At W (w.heap.size + 1 + 1 + 1) 70 (stC (aoS t f)) := h4
    clear h4
    have hDD : w.heap.size + 4 ≤ D := by omega
    generalize hg : aoS t f = g at *
    have HG := Lib.hid hg
    clear hg
    have hW5s := h5.size
    gi_wp2_with (first | (refine ldIn_row rfl 70 (.tmp 5) rfl (w.heap.size + 1 + 1 + 1) 70 (stC g) h4' (by rfl) 11 5 Tryd.underlying70 (by kernel_rfl) ?_) | (refine stIn_row rfl 70 (.tmp 4) (.tmp 17) rfl rfl (w.heap.size + 1 + 1) 70 zSA (stC g) h3 (by rfl) (by rfl) (by kernel_rfl) rfl (stC_one _) ?_; intro W6 hA6 hg6))
    have d6 : W6.heap[D]? = some (.deferred (some [])) := (hg6.block D (Array.getElem?_eq_some_iff.1 hd).1 (by simp; omega)).trans hd
    have bel : Below w.heap.size w W6 := h5.trans (below_grown hg6 hW5s (fun g hg => by cases hg; omega))
    simp only [Act.put, List.setIfInBounds_toArray, List.set_cons_succ, List.set_cons_zero]
    have fin : LeavesInM Fence.wide 5 Tryd.prog Tryd.f56 #[stV f, tabV t, .pointer (some ⟨w.heap.size, 0, none⟩), .pointer (some ⟨w.heap.size + 1, 0, none⟩), .pointer (some ⟨w.heap.size + 1 + 1, 0, none⟩), .pointer (some ⟨w.heap.size + 1 + 1 + 1, 0, none⟩), undef, stV f, .func (.func 88) #[.int .i64 9] #[], undef, undef, undef, undef, undef, undef, undef, undef, .agg (stC g)]
        (fun e w' => e = Ending.returned (stV (aoS t f)) ∧ Below w.heap.size w w') [] .returning (W6.putObj D (.deferred none)) := by
      exact ⟨_, HR _ _ g (w.heap.size + 1 + 1) ((World.putObj_heap_other (by omega)).trans hA6) rfl, by rw [HG.out], bel.trans ⟨rfl, rfl, rfl, by simp [World.putObj], fun k hk => World.putObj_heap_other (by omega)⟩⟩
    exact ⟨by simp, .inl ⟨D, _, rfl, run_takeDeferred d6, fin⟩⟩
  · intro _ _ _ _ _ _ hf
    exact hf.elim
end Go.Proofs.YtcpibkffeenehaaDoor
namespace Go.PM
open Go.RowKit
theorem src_okC {xs : List Mv} (h : MV xs) : ∀ p, p < 9 → okC (srcT (tabOf xs) p) = true := by
  intro p hp
  rw [srcM_nm h hp]
  unfold srcM
  cases hf : xs.find? (fun m => decide (m.1 = nm p)) with
  | none =>
    show okC (nm p) = true
    unfold okC; rw [(cidx_nm hp).1]; rfl
  | some m =>
    have hm := List.mem_of_find?_eq_some hf
    have h1 := h.1 m hm
    unfold mok at h1; rw [Bool.and_eq_true] at h1
    exact isS_okC h1.2
def aoB (xs : List Mv) (s : ByteArray) : ByteArray := okS (mvalid xs && stateV s) (stB (aoS (tabOf xs) (ofB s)))
def ioB (xs : List St) (s : ByteArray) : ByteArray := okS (svalid xs && stateV s) (stB (runS xs xs.length (ofB s)))
theorem okS_yes (s : ByteArray) : okS true s = s := rfl
theorem okS_no (s : ByteArray) : okS false s = ⟨#[]⟩ := rfl
end Go.PM
namespace Go.Proofs.YtcpibkffeenehaaDoor
open Go.RowKit Go.PM

set_option maxHeartbeats 800000 in
theorem imAtOnce_c (xs : List Mv) (v : Value) (s : ByteArray) (w : World) (hx : RdM w v xs) (hs : s.size ≤ 9223372036854775807) :
    Calls Tryd.prog 26 #[v, .string s] w fun e w' => e = .returned (.tuple #[.string (aoB xs s), .bool (mvalid xs && stateV s)]) ∧ Below w.heap.size w w' := by
  have HB : Hid (∀ x y, mvalid xs = x → stateV s = y → aoB xs s = okS (x && y) (stB (aoS (tabOf xs) (ofB s)))) := fun x y h1 h2 => by rw [aoB, h1, h2]
  by_cases h1 : MV xs
  · have hm : mvalid xs = true := by simpa [mvalid] using h1
    rcases Bool.eq_false_or_eq_true (stateV s) with h2 | h2
    · have HBT := Lib.hid (HB.out true true hm h2)
      have HT := Lib.hid (tableOf_yes xs h1 v w hx)
      have HS := Lib.hid (fun W => stateOf_c s W hs)
      have HG : Hid (stOf s = ofB s) := stOf_yes h2
      have HA := Lib.hid (fun W => atOnce_c (tabOf xs) (ofB s) (src_okC h1) W)
      have HX := Lib.hid (fun W => text_c (aoS (tabOf xs) (ofB s)) W)
      have HM := Lib.hid hm
      have H2 := Lib.hid h2
      clear hx h1 hm h2
      generalize tabOf xs = t at *
      generalize aoS t (ofB s) = g at *
      go_enter Tryd.func26, Tryd.ntmps26
      go_wp2_with fail
      refine HT.out.mono ?_
      rintro e w1 ⟨rfl, hb1⟩
      have hs1 := hb1.size
      have k2 := At.new w1 63 (tabA t)
      have b2 : Below w.heap.size w (w1.alloc (.cells (tabA t) 63)) := hb1.alloc hs1 _
      go_wp2_with fail
      refine (HS.out _).mono ?_
      rintro e w3 ⟨rfl, hb3⟩
      rw [HG.out, H2.out]
      have k3 := k2.keep hb3
      have b3 := b2.trans (hb3.mono b2.size)
      have s3 := b3.size
      have z3 := At.new w3 70 zSA
      generalize ofB s = f at *
      go_wp2_with (first | (refine st_row rfl 70 (.tmp 8) (.tmp 18) rfl rfl w3.heap.size 70 zSA (stC f) z3 (by rfl) (by rfl) (by kernel_rfl) rfl (stC_one _) ?_; intro W4 k4 g4; have j4 := (k3.alloc (.cells zSA 70)).grown g4 (by have := k3.lt; simp; omega)) | (refine ld_row rfl 70 (.tmp 8) rfl w3.heap.size 70 (stC f) k4 (by rfl) 11 5 Tryd.underlying70 (by kernel_rfl) ?_) | (refine ld_row rfl 63 (.tmp 6) rfl w1.heap.size 63 (tabA t) j4 (by rfl) 9 9 Tryd.underlying63 (by kernel_rfl) ?_))
      have b4 : Below w.heap.size w W4 := (b3.alloc s3 _).trans (below_grown g4 (by simp; omega) (fun g hg => by cases hg; omega))
      refine (HA.out _).mono ?_
      rintro e w5 ⟨rfl, hb5⟩
      have b5 := b4.trans (hb5.mono b4.size)
      go_wp2_with fail
      refine (HX.out _).mono ?_
      rintro e w6 ⟨rfl, hb6⟩
      go_wp2
      go_ret2
      exact ⟨by rw [HM.out, H2.out, HBT.out]; rfl, b5.trans (hb6.mono b5.size)⟩
    · have HT := Lib.hid (tableOf_yes xs h1 v w hx)
      have HS := Lib.hid (fun W => stateOf_c s W hs)
      have HBT := Lib.hid (HB.out true false hm h2)
      have HM := Lib.hid hm
      have H2 := Lib.hid h2
      clear hx h1 hm h2
      generalize tabOf xs = t at *
      generalize stOf s = f at *
      go_enter Tryd.func26, Tryd.ntmps26
      go_wp2_with fail
      refine HT.out.mono ?_
      rintro e w1 ⟨rfl, hb1⟩
      have hs1 := hb1.size
      have b2 : Below w.heap.size w (w1.alloc (.cells (tabA t) 63)) := hb1.alloc hs1 _
      go_wp2_with fail
      refine (HS.out _).mono ?_
      rintro e w3 ⟨rfl, hb3⟩
      rw [H2.out]
      have b3 := b2.trans (hb3.mono b2.size)
      have s3 := b3.size
      have z3 := At.new w3 70 zSA
      go_wp2_with (refine st_row rfl 70 (.tmp 8) (.tmp 18) rfl rfl w3.heap.size 70 zSA (stC f) z3 (by rfl) (by rfl) (by kernel_rfl) rfl (stC_one _) ?_; intro W4 k4 g4)
      go_ret2
      exact ⟨by rw [HM.out, H2.out, HBT.out]; rfl, (b3.alloc s3 _).trans (below_grown g4 (by simp; omega) (fun g hg => by cases hg; omega))⟩
  · have hm : mvalid xs = false := by simpa [mvalid] using h1
    rcases Bool.eq_false_or_eq_true (stateV s) with h2 | h2
    · have HT := Lib.hid (tableOf_no xs h1 v w hx)
      have HS := Lib.hid (fun W => stateOf_c s W hs)
      have HBT := Lib.hid (HB.out false true hm h2)
      have HM := Lib.hid hm
      have H2 := Lib.hid h2
      clear hx h1 hm h2

      generalize stOf s = f at *
      go_enter Tryd.func26, Tryd.ntmps26
      go_wp2_with fail
      refine HT.out.mono ?_
      rintro e w1 ⟨rfl, hb1⟩
      have hs1 := hb1.size
      have b2 : Below w.heap.size w (w1.alloc (.cells zA 63)) := hb1.alloc hs1 _
      go_wp2_with fail
      refine (HS.out _).mono ?_
      rintro e w3 ⟨rfl, hb3⟩
      rw [H2.out]
      have b3 := b2.trans (hb3.mono b2.size)
      have s3 := b3.size
      have z3 := At.new w3 70 zSA
      go_wp2_with (refine st_row rfl 70 (.tmp 8) (.tmp 18) rfl rfl w3.heap.size 70 zSA (stC f) z3 (by rfl) (by rfl) (by kernel_rfl) rfl (stC_one _) ?_; intro W4 k4 g4)
      go_ret2
      exact ⟨by rw [HM.out, H2.out, HBT.out]; rfl, (b3.alloc s3 _).trans (below_grown g4 (by simp; omega) (fun g hg => by cases hg; omega))⟩
    · have HT := Lib.hid (tableOf_no xs h1 v w hx)
      have HS := Lib.hid (fun W => stateOf_c s W hs)
      have HBT := Lib.hid (HB.out false false hm h2)
      have HM := Lib.hid hm
      have H2 := Lib.hid h2
      clear hx h1 hm h2

      generalize stOf s = f at *
      go_enter Tryd.func26, Tryd.ntmps26
      go_wp2_with fail
      refine HT.out.mono ?_
      rintro e w1 ⟨rfl, hb1⟩
      have hs1 := hb1.size
      have b2 : Below w.heap.size w (w1.alloc (.cells zA 63)) := hb1.alloc hs1 _
      go_wp2_with fail
      refine (HS.out _).mono ?_
      rintro e w3 ⟨rfl, hb3⟩
      rw [H2.out]
      have b3 := b2.trans (hb3.mono b2.size)
      have s3 := b3.size
      have z3 := At.new w3 70 zSA
      go_wp2_with (refine st_row rfl 70 (.tmp 8) (.tmp 18) rfl rfl w3.heap.size 70 zSA (stC f) z3 (by rfl) (by rfl) (by kernel_rfl) rfl (stC_one _) ?_; intro W4 k4 g4)
      go_ret2
      exact ⟨by rw [HM.out, H2.out, HBT.out]; rfl, (b3.alloc s3 _).trans (below_grown g4 (by simp; omega) (fun g hg => by cases hg; omega))⟩
end Go.Proofs.YtcpibkffeenehaaDoor
namespace Go.Proofs.YtcpibkffeenehaaDoor
open Go.RowKit Go.PM

end Go.Proofs.YtcpibkffeenehaaDoor
namespace Go.PM
def sameAt (xs ys : List Mv) (p : Nat) : Bool := decide (srcM xs (nm p) = srcM ys (nm p))
def sameM (xs ys : List Mv) : Bool := mvalid xs && mvalid ys && (List.range 9).all (sameAt xs ys)
theorem sameM_no {xs ys : List Mv} (k : Nat) (hk : k < 9) (h : sameAt xs ys k = false) : sameM xs ys = false := by
  have : (List.range 9).all (sameAt xs ys) = false := by
    rw [List.all_eq_false]
    exact ⟨k, by simpa using hk, by rw [h]; decide⟩
  rw [sameM, this, Bool.and_false]
theorem sameM_all {xs ys : List Mv} (h : ∀ p, p < 9 → sameAt xs ys p = true) : sameM xs ys = (mvalid xs && mvalid ys) := by
  have : (List.range 9).all (sameAt xs ys) = true := by
    rw [List.all_eq_true]
    intro p hp
    exact h p (by simpa using hp)
  rw [sameM, this, Bool.and_true]
end Go.PM
namespace Go.Proofs.YtcpibkffeenehaaDoor
open Go.RowKit Go.PM

end Go.Proofs.YtcpibkffeenehaaDoor
