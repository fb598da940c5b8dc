import Derived.Test.YtjmbmfemlkicmaaDoorSp1
import Derived.Test.YtjmbmfemlkicmaaDoorRow
import Derived.Test.YtjmbmfemlkicmaaDoorApp
import Derived.Test.YtjmbmfemlkicmaaDoorHold
import Derived.Laws.BitsAllLaws
import Derived.Laws.BitsLemmas
namespace Go.PM
open Go.RowKit
/-- a slice of bytes that lies below a block -/
def RdB (w : World) (B : Nat) (v : Value) (n : Nat) : Prop :=
  ∃ A cap, v = .slice A n cap ∧ n ≤ cap ∧ n ≤ 9223372036854775807 ∧ ∀ k, k < n → ∃ b off c, A = some ⟨b, off, none⟩ ∧ b < B ∧ b < w.heap.size ∧ w.cell? ⟨b, off + k, none⟩ = some (.int .u8 c) ∧ 0 ≤ c ∧ c < 256
theorem RdB.keep {w w' : World} {B n : Nat} {v : Value} {row : Option Nat} (h : RdB w B v n) (hg : w.grownBy w' row) (hne : ∀ r, row = some r → B ≤ r) : RdB w' B v n := by
  obtain ⟨A, cap, e, h1, h2, h3⟩ := h
  refine ⟨A, cap, e, h1, h2, fun k hk => ?_⟩
  obtain ⟨b, off, c, e1, hb, hl, hc, hc0, hc1⟩ := h3 k hk
  have hs := hg.size
  refine ⟨b, off, c, e1, hb, by omega, ?_, hc0, hc1⟩
  have hh := hg.block b hl (fun e => by have := hne b e.symm; omega)
  simp only [World.cell?, hh] at hc ⊢
  exact hc
/-- a reader: its bytes and its place -/
def Rdr (w : World) (t : TypeId) (B r : Nat) (p : Int) : Prop :=
  B ≤ r ∧ 0 ≤ p ∧ ∃ v n, n ≤ 2000 ∧ RdB w B v n ∧ At w r t #[v, .int .i64 p]
theorem Rdr.keep {w w' : World} {t : TypeId} {B r : Nat} {p : Int} (h : Rdr w t B r p) (hb : Below w.heap.size w w') : Rdr w' t B r p := by
  obtain ⟨h1, h0, v, n, hn, h2, h3⟩ := h
  exact ⟨h1, h0, v, n, hn, h2.keep (grown_below hb none) (fun r e => by cases e), h3.keep hb⟩
theorem grown_set (w : World) (b i : Nat) (v : Value) : w.grownBy (w.setCell ⟨b, i, none⟩ v) (some b) :=
  ⟨rfl, rfl, rfl, by rw [World.size_setCell]; exact Nat.le_refl _, fun k _ hne => heap_setCell_other _ _ _ _ (fun e => hne (by rw [e]))⟩
theorem i64_xor (a b : Int) (h1 : 0 ≤ a) (h2 : a < 9223372036854775808) (h3 : 0 ≤ b) (h4 : b < 9223372036854775808) : 0 ≤ bits .xor .i64 a b ∧ bits .xor .i64 a b < 9223372036854775808 := by
  obtain ⟨x, rfl⟩ := Int.eq_ofNat_of_zero_le h1
  obtain ⟨y, rfl⟩ := Int.eq_ofNat_of_zero_le h3
  have hx : x ^^^ y < 2 ^ 63 := Nat.xor_lt_two_pow (by omega) (by omega)
  have e : bits .xor .i64 (x : Int) (y : Int) = ((x ^^^ y : Nat) : Int) := by
    show IntKind.i64.wrap ((BitVec.ofInt 64 (x : Int) ^^^ BitVec.ofInt 64 (y : Int)).toNat : Int) = _
    have ox : (BitVec.ofInt 64 (x : Int)).toNat = x := by simp; omega
    have oy : (BitVec.ofInt 64 (y : Int)).toNat = y := by simp; omega
    rw [BitVec.toNat_xor, ox, oy]
    rw [IntKind.wrap_i64]
    omega
  rw [e]
  omega
/-- a literal list whose elements have a property -/
def Lits (w : World) (L m : Nat) (Pr : Value → Prop) : Prop := L < w.heap.size ∧ ∀ k, k < m → ∃ u, w.cell? ⟨L, k, none⟩ = some u ∧ Pr u
theorem Lits.keep {w w' : World} {L m : Nat} {Pr : Value → Prop} {row : Option Nat} (h : Lits w L m Pr) (hg : w.grownBy w' row) (hne : row ≠ some L) : Lits w' L m Pr := by
  have hs := hg.size
  refine ⟨by have := h.1; omega, fun k hk => ?_⟩
  obtain ⟨u, hu, hp⟩ := h.2 k hk
  have hh := hg.block L h.1 (fun e => hne e.symm)
  refine ⟨u, ?_, hp⟩
  simp only [World.cell?, hh] at hu ⊢
  exact hu
theorem Lits.new (w : World) (t : TypeId) (cs : Array Value) (Pr : Value → Prop) (h : ∀ u ∈ cs.toList, Pr u) : Lits (w.alloc (.cells cs t)) w.heap.size cs.size Pr := by
  refine ⟨by simp, fun k hk => ⟨cs[k], ?_, h _ (by simp)⟩⟩
  rw [(At.new w t cs).cell k]
  simp [hk]
def strOk (n : Nat) : Value → Bool
  | .string s => decide (s.size ≤ n)
  | _ => false
def intOk (n : Nat) : Value → Bool
  | .int .i64 x => decide (0 ≤ x) && decide (x ≤ n)
  | _ => false
theorem Lits.strs (w : World) (t : TypeId) (cs : Array Value) (n : Nat) (h : cs.toList.all (strOk n) = true) : Lits (w.alloc (.cells cs t)) w.heap.size cs.size (fun u => ∃ s, u = .string s ∧ s.size ≤ n) :=
  Lits.new w t cs _ fun u hu => by
    have := List.all_eq_true.1 h u hu
    cases u <;> first | (exact ⟨_, rfl, by simpa [strOk] using this⟩) | (simp [strOk] at this)
theorem Lits.ints (w : World) (t : TypeId) (cs : Array Value) (n : Nat) (h : cs.toList.all (intOk n) = true) : Lits (w.alloc (.cells cs t)) w.heap.size cs.size (fun u => ∃ x, u = .int .i64 x ∧ 0 ≤ x ∧ x ≤ n) :=
  Lits.new w t cs _ fun u hu => by
    have h2 := List.all_eq_true.1 h u hu
    unfold intOk at h2
    split at h2
    · rw [Bool.and_eq_true, decide_eq_true_eq, decide_eq_true_eq] at h2
      exact ⟨_, rfl, h2⟩
    · cases h2
end Go.PM
namespace Go.Proofs.YtjmbmfemlkicmaaDoor
open Go.RowKit Go.PM

set_option maxRecDepth 100000 in
set_option maxHeartbeats 2000000 in
theorem pick_c (w : World) (B r : Nat) (n p : Int) (hr : Rdr w 38 B r p) (h1 : 1 ≤ n) (h2 : n ≤ 1048576) (p1 : p ≤ 1099511627776) :
    Calls Tryd.prog 11 #[.pointer (some ⟨r, 0, none⟩), .int .i64 n] w fun e w' => ∃ k : Int, e = .returned (.int .i64 k) ∧ 0 ≤ k ∧ k < n ∧ Rdr w' 38 B r (p + 1) ∧ w.grownBy w' (some r) := by
  obtain ⟨hB, p0, v, N, hN, hv, hA⟩ := hr
  obtain ⟨P, rfl⟩ := Int.eq_ofNat_of_zero_le p0
  clear p0
  have n0 : decide (n < 1) = false := decide_eq_false (by omega)
  have c0 : w.cell? ⟨r, 0, none⟩ = some v := hA.cell 0
  have c1 : w.cell? ⟨r, 1, none⟩ = some (.int .i64 (P : Int)) := hA.cell 1
  have f1 : w.frozen? ⟨r, 1, none⟩ = false := hA.frozen 1
  have n1 : At (w.setCell ⟨r, 1, none⟩ (.int .i64 ((P : Int) + 1))) r 38 #[v, .int .i64 ((P : Int) + 1)] := hA.set 1 _
  have g1 : w.grownBy (w.setCell ⟨r, 1, none⟩ (.int .i64 ((P : Int) + 1))) (some r) := grown_set w r 1 _
  have v1 := hv.keep g1 (fun r' e => by cases e; exact hB)
  have d0 := n1.cell 0
  have d1 := n1.cell 1
  have R1 : Rdr (w.setCell ⟨r, 1, none⟩ (.int .i64 ((P : Int) + 1))) 38 B r ((P : Int) + 1) := ⟨hB, by omega, v, N, hN, v1, n1⟩
  clear hv
  obtain ⟨A, cap, rfl, hc, _, hcell⟩ := v1
  generalize hw1 : w.setCell ⟨r, 1, none⟩ (.int .i64 ((P : Int) + 1)) = w1 at *
  by_cases hN0 : N = 0
  · have t1 : ((N : Int) == 0) = true := by simp [hN0]
    go_enter Tryd.func11, Tryd.ntmps11
    go_wp2
    go_ret
    exact ⟨0, rfl, by omega, by omega, R1, g1⟩
  · have t1 : ((N : Int) == 0) = false := by simp [hN0]
    have i0 : (0 : Int) ≤ (P : Int) := by omega
    by_cases hlt : P < N
    · obtain ⟨b, off, c, rfl, hbB, hbl, hc1, hc2, hc3⟩ := hcell P (by omega)
      have i1 : (P : Int) < N := by omega
      have hmn := Int.emod_nonneg c (show n ≠ 0 by omega)
      have hml := Int.emod_lt_of_pos c (show 0 < n by omega)
      go_enter Tryd.func11, Tryd.ntmps11
      go_wp2
      go_ret
      exact ⟨_, rfl, hmn, hml, R1, g1⟩
    · obtain ⟨b, off, c, rfl, hbB, hbl, hc1, hc2, hc3⟩ := hcell (P % N) (Nat.mod_lt _ (by omega))
      obtain ⟨b', off', c', e, _, _, hd1, hd2, hd3⟩ := hcell ((P * 7 + 3) % N) (Nat.mod_lt _ (by omega))
      obtain ⟨rfl, rfl⟩ : b = b' ∧ off = off' := by cases e; exact ⟨rfl, rfl⟩
      clear e
      have j0 : (0 : Int) ≤ (P : Int) % (N : Int) := Int.emod_nonneg _ (by omega)
      have j1 : (P : Int) % (N : Int) < (N : Int) := Int.emod_lt_of_pos _ (by omega)
      have k0 : (0 : Int) ≤ ((P : Int) * 7 + 3) % (N : Int) := Int.emod_nonneg _ (by omega)
      have k1 : ((P : Int) * 7 + 3) % (N : Int) < (N : Int) := Int.emod_lt_of_pos _ (by omega)
      have u0 : (0 : Int) ≤ (P : Int) / (N : Int) := Int.ediv_nonneg (by omega) (by omega)
      have u1 : (P : Int) / (N : Int) ≤ (P : Int) := Int.ediv_le_self _ (by omega)
      go_enter Tryd.func11, Tryd.ntmps11
      go_wp2
      refine wp_region_quiet (C := fun w' => w' = w1.drew) (by kernel_rfl) (by kernel_rfl) rfl ?_
      simp only
      repeat (go_big_quiet_step (fail))
      refine wpQuiet_nil ?_
      intro w' hw'
      subst hw'
      have X0 : 0 ≤ c * 131 + c' * 1117 + (P : Int) * 29 + (P : Int) / (N : Int) * 53 := by omega
      have X1 : c * 131 + c' * 1117 + (P : Int) * 29 + (P : Int) / (N : Int) * 53 ≤ 1000000000000000 := by omega
      clear hcell hc1 hd1 hlt
      generalize c * 131 + c' * 1117 + (P : Int) * 29 + (P : Int) / (N : Int) * 53 = X at *
      have hX := i64_xor X (X / 64) X0 (by omega) (by omega) (by omega)
      have hmn := Int.emod_nonneg (bits .xor .i64 X (X / 64)) (show n ≠ 0 by omega)
      have hml := Int.emod_lt_of_pos (bits .xor .i64 X (X / 64)) (show 0 < n by omega)
      obtain ⟨y0, y1⟩ := hX
      go_wp2
      go_ret
      exact ⟨_, rfl, hmn, hml, R1, ⟨g1.os, g1.tape, g1.output, g1.size, g1.block⟩⟩

set_option maxHeartbeats 800000 in
theorem l13Open_c (w : World) (v : Value) (n : Nat) (hv : RdB w w.heap.size v n) :
    Calls Tryd.prog 10 #[v] w fun e w' => ∃ r, e = .returned (.pointer (some ⟨r, 0, none⟩)) ∧ Rdr w' 38 w.heap.size r 0 ∧ Below w.heap.size w w' := by
  have hv0 := hv
  obtain ⟨A, cap, rfl, hc, hN, hcell⟩ := hv
  by_cases h : n ≤ 2000
  · have t1 : decide ((n : Int) > 2000) = false := by simp; omega
    go_enter Tryd.func10, Tryd.ntmps10
    go_wp2
    go_ret
    exact ⟨_, rfl, ⟨Nat.le_refl _, Int.le_refl _, _, n, h, (show RdB w w.heap.size (.slice A n cap) n from ⟨A, cap, rfl, by omega, by omega, fun k hk => hcell k (by omega)⟩).keep (grown_below ((Below.refl _ _).alloc (Nat.le_refl _) _) none) (fun r e => by cases e), At.new _ _ _⟩, (Below.refl _ _).alloc (Nat.le_refl _) _⟩
  · have t1 : decide ((n : Int) > 2000) = true := by simp; omega
    go_enter Tryd.func10, Tryd.ntmps10
    go_wp2
    go_ret
    exact ⟨_, rfl, ⟨Nat.le_refl _, Int.le_refl _, _, 2000, Nat.le_refl _, (show RdB w w.heap.size (.slice A (2000 : Nat) cap) 2000 from ⟨A, cap, rfl, by omega, by omega, fun k hk => hcell k (by omega)⟩).keep (grown_below ((Below.refl _ _).alloc (Nat.le_refl _) _) none) (fun r e => by cases e), At.new _ _ _⟩, (Below.refl _ _).alloc (Nat.le_refl _) _⟩

set_option maxHeartbeats 800000 in
theorem num_c (w : World) (B r L m : Nat) (p : Int) (Pr : Int → Prop) (hr : Rdr w 38 B r p) (hm : 1 ≤ m) (hm2 : m ≤ 1048576) (p1 : p ≤ 1099511627776) (hL : Lits w L m (fun u => ∃ x, u = .int .i64 x ∧ Pr x)) (hne : L ≠ r) :
    Calls Tryd.prog 12 #[.pointer (some ⟨r, 0, none⟩), .slice (some ⟨L, 0, none⟩) m m] w fun e w' => ∃ x, e = .returned (.int .i64 x) ∧ Pr x ∧ Rdr w' 38 B r (p + 1) ∧ w.grownBy w' (some r) := by
  have HP := Lib.hid (pick_c w B r m p hr (by omega) (by omega) p1)
  go_enter Tryd.func12, Tryd.ntmps12
  go_wp2_with fail
  refine HP.out.mono ?_
  rintro e w1 ⟨k, rfl, k0, k1, R1, g1⟩
  obtain ⟨K, rfl⟩ := Int.eq_ofNat_of_zero_le k0
  have L1 := hL.keep g1 (fun e => hne (by cases e; rfl))
  obtain ⟨u, hu, s, rfl, hs⟩ := L1.2 K (by omega)
  go_wp2
  go_ret
  exact ⟨s, rfl, hs, R1, g1⟩
end Go.Proofs.YtjmbmfemlkicmaaDoor
