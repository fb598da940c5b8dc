import Derived.Test.YtplapaojgcloaaaGreatDoorWaZA
import Derived.Test.YtplapaojgcloaaaGreatDoorRow
import Derived.Test.YtplapaojgcloaaaGreatDoorIm2
import Derived.Test.YtplapaojgcloaaaGreatDoorApp
import Derived.Deep.RegionLaw
import Derived.Test.YtplapaojgcloaaaGreatDoorNames
import Derived.Test.YtplapaojgcloaaaGreatDoorTail
import Derived.Stop.RegionWithIn
namespace Go.PM
open Go.RowKit
theorem mcells_take (xs : List Mv) (k : Nat) : (mcells xs).take (k * 2) = mcells (xs.take k) := by
  induction xs generalizing k with
  | nil => simp [mcells]
  | cons x xs ih =>
    cases k with
    | zero => simp [mcells]
    | succ k =>
      rw [mcells_cons, List.take_succ_cons, mcells_cons, ← ih k, show (k + 1) * 2 = k * 2 + 1 + 1 by omega]
      rfl
theorem mcells_drop (xs : List Mv) (k : Nat) : (mcells xs).drop (k * 2) = mcells (xs.drop k) := by
  induction xs generalizing k with
  | nil => simp [mcells]
  | cons x xs ih =>
    cases k with
    | zero => simp [mcells]
    | succ k =>
      rw [mcells_cons, List.drop_succ_cons, ← ih k, show (k + 1) * 2 = k * 2 + 1 + 1 by omega]
      rfl
theorem Rd.cellsFrom {w : World} {b off n cap : Nat} {xs : List Mv} (h : RdM w (.slice (some ⟨b, off, none⟩) n cap) xs) : ∀ j u, (mcells xs)[j]? = some u → w.cell? ⟨b, off + j, none⟩ = some u := by
  intro j u hu
  obtain ⟨A, cap', e, hc, hn, hl, hr⟩ := h
  have h0 : 0 < xs.length := by
    have := (List.getElem?_eq_some_iff.1 hu).1
    rw [mcells_length] at this; omega
  obtain ⟨b', off', eA, hb, hcell⟩ := hr h0
  cases e; cases eA
  exact hcell j u hu
end Go.PM
namespace Go.Proofs.YtplapaojgcloaaaGreatDoor
open Go.RowKit Go.PM

set_option maxRecDepth 100000 in
set_option maxHeartbeats 1600000 in
theorem without_c (xs : List Mv) (v : Value) (i : Nat) (hi : i < xs.length) (w : World) (hx : RdM w v xs) (hn' : xs.length ≤ 1048576) :
    Calls Tryz.prog 81 #[v, .int .i64 i] w fun e w' => ∃ v', e = .returned v' ∧ w'.ownsRow w.heap.size 37 2 v' (xs.eraseIdx i).length (mcells (xs.eraseIdx i)) ∧ Below w.heap.size w w' := by
  have hx0 := hx
  obtain ⟨A, cap, rfl, hn, hc, hcell⟩ := hx.open
  obtain ⟨b, off, rfl, hbl, _, _⟩ := hcell i hi
  clear hcell
  have hsrc := Rd.cellsFrom hx0
  clear hx hx0
  obtain ⟨i0, hi0, hz0, hz1, hz2⟩ := info_parts infoMv
  have hmk := fun W : World => run_make (P := Tryz.prog) W 23 37 i0 _ Tryz.underlying23 hi0 hz0 .i64 .i64 ((xs.length - 1 : Nat) : Int) ((xs.length - 1 : Nat) : Int) (by omega) (Int.le_refl _) (by rw [hz2]; omega) (by omega)
  simp only [Int.toNat_natCast, hz1] at hmk
  have hsub : ((xs.length : Int) - 1) = ((xs.length - 1 : Nat) : Int) := by omega
  generalize xs.length - 1 = n1 at *
  obtain ⟨Z, hZ, hZl⟩ : ∃ Z : List Value, madeCells #[Value.string ⟨#[]⟩, Value.string ⟨#[]⟩] (n1 * 2) = Z.toArray ∧ Z.length = n1 * 2 := ⟨(madeCells #[Value.string ⟨#[]⟩, Value.string ⟨#[]⟩] (n1 * 2)).toList, by simp, by rw [Array.length_toList]; exact size_madeCells _ _⟩
  have hmk2 : ∀ W : World, Sem.run Tryz.prog (Instr.makeSlice 23 (.int .i64 (n1 : Nat)) (.int .i64 (n1 : Nat))) W = .ok (.slice (some ⟨W.heap.size, 0, none⟩) n1 n1) (W.alloc (.cells Z.toArray 37)) := fun W => by rw [hmk W]; exact congrArg (fun c => Result.ok (Value.slice (some ⟨W.heap.size, 0, none⟩) n1 n1) (W.alloc (.cells c 37))) hZ
  clear hmk hZ hz0 hz1 hz2 hi0 i0
  have hO : At (w.alloc (.cells Z.toArray 37)) w.heap.size 37 Z.toArray := At.new _ _ _
  have hB : Below w.heap.size w (w.alloc (.cells Z.toArray 37)) := (Below.refl _ _).alloc (Nat.le_refl _) _
  have hl1 : (mcells (xs.take i)).length = i * 2 := by rw [mcells_length, List.length_take]; omega
  have hl2 : (mcells (xs.drop (i + 1))).length = (n1 - i) * 2 := by rw [mcells_length, List.length_drop]; omega
  have hin : i ≤ n1 := by omega
  have hm1 : Nat.min i n1 = i := Nat.min_eq_left hin
  have s1 : ∀ j u, (mcells (xs.take i))[j]? = some u → (mcells xs)[j]? = some u := fun j u h => by
    rw [← mcells_take, List.getElem?_take] at h
    split at h
    · exact h
    · cases h
  have s2 : ∀ j u, (mcells (xs.drop (i + 1)))[j]? = some u → (mcells xs)[(i + 1) * 2 + j]? = some u := fun j u h => by
    rw [← mcells_drop, List.getElem?_drop] at h
    exact h
  have o1 := mcells_one (xs.take i)
  have o2 := mcells_one (xs.drop (i + 1))
  have hfin : ∀ X1 X2 : List Value, X1 = mcells (xs.take i) → X2 = mcells (xs.drop (i + 1)) → splice (splice Z 0 X1) (i * 2) X2 = mcells (xs.eraseIdx i) := fun X1 X2 e1 e2 => by
    have hl1' : X1.length = i * 2 := by rw [e1]; exact hl1
    have hl2' : X2.length = (n1 - i) * 2 := by rw [e2]; exact hl2
    have e3 : splice Z 0 X1 = X1 ++ Z.drop (i * 2) := by unfold splice; simp [hl1']
    rw [e3]
    unfold splice
    rw [List.take_left' hl1', List.drop_eq_nil_of_le (by rw [List.length_append, List.length_drop, hl1', hl2', hZl]; omega), List.append_nil, e1, e2, ← mcells_append, List.eraseIdx_eq_take_drop_succ]
  have hle : (xs.eraseIdx i).length = n1 := by rw [List.length_eraseIdx_of_lt hi]; omega
  obtain ⟨X1, hX1⟩ : ∃ X, X = mcells (xs.take i) := ⟨_, rfl⟩
  obtain ⟨X2, hX2⟩ : ∃ X, X = mcells (xs.drop (i + 1)) := ⟨_, rfl⟩
  have hf := Lib.hid (hfin X1 X2 hX1 hX2)
  rw [← hX1] at hl1 s1 o1
  rw [← hX2] at hl2 s2 o2
  have HX := Lib.hid (And.intro hX1 hX2)
  have HLE := Lib.hid hle
  have HS := Lib.hid hsrc
  clear hX1 hX2 hfin hle
  have hcp : ∀ (W : World), Below w.heap.size w W → ∀ (j : Nat) (u : Value), (mcells xs)[j]? = some u → W.cell? ⟨b, off + j, none⟩ = some u := fun W hW j u h => (hW.cell hbl).trans (hsrc j u h)
  have hp1 : 0 < Nat.min i n1 → (some ⟨w.heap.size, 0, none⟩ : Option Addr) = some ⟨w.heap.size, 0, none⟩ ∧ ∃ ad, (some ⟨b, off, none⟩ : Option Addr) = some ad ∧ ∀ j v, X1[j]? = some v → (w.alloc (.cells Z.toArray 37)).cell? (ad.add j) = some v :=
    fun _ => ⟨rfl, _, rfl, fun j u h => by rw [show (⟨b, off, none⟩ : Addr).add j = ⟨b, off + j, none⟩ by unfold Addr.add; split <;> simp_all]; exact hcp _ hB j u (s1 j u h)⟩
  go_enter Tryz.func81, Tryz.ntmps81
  go_wp2_with (refine wpList_copyN rfl (.tmp 10) (.tmp 13) 23 23 rfl 37 2 Tryz.underlying23 (by kernel_rfl) (some ⟨w.heap.size, 0, none⟩) (some ⟨b, off, none⟩) n1 n1 i cap (by rfl) (by rfl) w.heap.size 0 Z 37 hO X1 (by rw [hl1, hm1]) hp1 (by rw [hl1, hZl]; omega) o1 w.heap.size w hB (Nat.le_refl _) ?_; intro W1 hA1 hb1)
  clear hp1 hO hB
  have hin2 : (i : Int) ≤ (n1 : Int) := by omega
  have hin3 : ((i : Int) + 1) ≤ (xs.length : Int) := by omega
  refine region_tail (C := fun w' => w' = W1.drew) 7 (by kernel_rfl) (by kernel_rfl) rfl ?_
  simp only [List.take_succ_cons, List.take_zero, List.drop_succ_cons, List.drop_zero]
  go_big_quiet_step (fail)
  go_big_quiet_step (fail)
  go_big_quiet_step (fail)
  go_big_quiet_step (fail)
  go_big_quiet_step (fail)
  go_big_quiet_step (fail)
  go_big_quiet_step (fail)
  refine wpQuiet_nil ?_
  intro w' hw'
  subst hw'
  have hcopy : ∀ (W : World), Below w.heap.size w W → ∀ (j : Nat) (v : Value), X2[j]? = some v → W.cell? ((⟨b, off + (i + 1) * 2, none⟩ : Addr).add j) = some v := fun W hW j v h => by
    rw [show (⟨b, off + (i + 1) * 2, none⟩ : Addr).add j = ⟨b, off + ((i + 1) * 2 + j), none⟩ by unfold Addr.add; split <;> simp_all [Nat.add_assoc]]
    exact hcp W hW _ _ (s2 j v h)
  refine wpList_copyN rfl (.tmp 17) (.tmp 21) 23 23 rfl 37 2 Tryz.underlying23 (by kernel_rfl) _ _ (n1 - i) (n1 - i) (xs.length - (i + 1)) (cap - (i + 1)) (by rfl) (by rfl) w.heap.size (i * 2) (splice Z 0 X1) 37 hA1.out X2 ?_ ?_ ?_ o2 w.heap.size w hb1.drew (Nat.le_refl _) ?_
  · rw [hl2, show Nat.min (xs.length - (i + 1)) (n1 - i) = n1 - i from Nat.min_eq_right (by omega)]
  · intro h0
    rw [show Nat.min (xs.length - (i + 1)) (n1 - i) = n1 - i from Nat.min_eq_right (by omega)] at h0
    refine ⟨?_, ?_⟩
    · rw [if_neg (by omega)]
    · rw [if_neg (by omega)]
      exact ⟨_, rfl, hcopy _ hb1.drew⟩
  · rw [hl2]
    have : (splice Z 0 X1).length = Z.length := length_splice _ _ _ (by rw [hl1, hZl]; omega)
    rw [this, hZl]; omega
  · intro W2 hA2 hb2
    have hA3 := hA2.out
    rw [hf.out] at hA3
    have ho := own_at W2 w.heap.size w.heap.size 37 (xs.eraseIdx i) hA3 (Nat.le_refl _) (by rw [HLE.out]; omega)
    rw [HLE.out] at ho
    have HO := Lib.hid ho
    clear ho hA3 hA2 hcopy hcp
    generalize (if n1 = i then (some ⟨w.heap.size, 0, none⟩ : Option Addr) else some ⟨w.heap.size, i * 2, none⟩) = Q1
    generalize (if cap = i + 1 then (some ⟨b, off, none⟩ : Option Addr) else some ⟨b, off + (i + 1) * 2, none⟩) = Q2
    go_wp2
    go_ret
    exact ⟨_, rfl, by rw [HLE.out]; exact HO.out, hb2⟩
end Go.Proofs.YtplapaojgcloaaaGreatDoor
namespace Go.PM
open Go.RowKit
/-- the first k moves are redirected -/
def redK (d : Mv) (xs : List Mv) (k : Nat) : List Mv := redM d (xs.take k) ++ xs.drop k
theorem redK_len (d : Mv) (xs : List Mv) (k : Nat) : (redK d xs k).length = xs.length := by
  unfold redK
  rw [List.length_append, redM_len, List.length_take, List.length_drop]; omega
theorem redK_zero (d : Mv) (xs : List Mv) : redK d xs 0 = xs := by
  unfold redK redM
  simp [instM]
theorem redK_full (d : Mv) (xs : List Mv) : redK d xs xs.length = redM d xs := by
  unfold redK; simp
def redB (d : Mv) (m : Mv) : Bool := decide (m.2 = d.2) && !isD d.2
theorem redM_append (d : Mv) (xs ys : List Mv) : redM d (xs ++ ys) = redM d xs ++ redM d ys := by
  unfold redM; split
  · rfl
  · simp [instM]
theorem redM_one (d m : Mv) : redM d [m] = [if redB d m = true then (m.1, d.1) else m] := by
  unfold redM redB instM
  by_cases h : isD d.2 = true
  · rw [if_pos h, h]; simp
  · rw [if_neg h]
    have : isD d.2 = false := by simpa using h
    rw [this]
    by_cases h2 : m.2 = d.2
    · simp [h2]
    · simp [h2]
theorem redK_at (d : Mv) (xs : List Mv) (k : Nat) (hk : k < xs.length) : (redK d xs k)[k]? = some xs[k] := by
  unfold redK
  rw [List.getElem?_append_right (by rw [redM_len, List.length_take]; omega), redM_len, List.length_take, List.getElem?_drop]
  rw [show k + (k - min k xs.length) = k by omega, List.getElem?_eq_getElem hk]
theorem redK_succ (d : Mv) (xs : List Mv) (k : Nat) (hk : k < xs.length) : redK d xs (k + 1) = (redK d xs k).set k (if redB d xs[k] = true then (xs[k].1, d.1) else xs[k]) := by
  have hl : (redM d (xs.take k)).length = k := by rw [redM_len, List.length_take]; omega
  unfold redK
  rw [take_snoc xs k hk, redM_append, redM_one, List.set_append_right _ _ (by omega), hl, Nat.sub_self, List.drop_eq_getElem_cons hk, List.set_cons_zero, List.append_assoc]
  rfl
theorem mcells_set2 (xs : List Mv) (k : Nat) (hk : k < xs.length) (s : ByteArray) : (mcells xs).set (k * 2 + 1) (.string s) = mcells (xs.set k (xs[k].1, s)) := by
  induction xs generalizing k with
  | nil => simp at hk
  | cons x xs ih =>
    cases k with
    | zero => simp [mcells]
    | succ k =>
      have := ih k (by simpa using hk)
      rw [mcells_cons, List.set_cons_succ, show (k + 1) * 2 = k * 2 + 1 + 1 by omega, List.set_cons_succ, this, List.set_cons_succ, mcells_cons]
      rfl
end Go.PM
namespace Go.Proofs.YtplapaojgcloaaaGreatDoor
open Go.RowKit Go.PM

set_option maxRecDepth 100000 in
set_option maxHeartbeats 1600000 in
theorem redirected_c (xs : List Mv) (v : Value) (d : Mv) (w : World) (hx : RdM w v xs) (hn' : xs.length ≤ 1048576) :
    Calls Tryz.prog 82 #[v, .agg #[.string d.1, .string d.2]] w fun e w' => ∃ v', e = .returned v' ∧ w'.ownsRow w.heap.size 37 2 v' (redM d xs).length (mcells (redM d xs)) ∧ Below w.heap.size w w' := by
  have hx0 := hx
  obtain ⟨A, cap, rfl, hn, hc, hcell⟩ := hx.open
  obtain ⟨i0, hi0, hz0, hz1, hz2⟩ := info_parts infoMv
  have hmk := fun W : World => run_make (P := Tryz.prog) W 23 37 i0 _ Tryz.underlying23 hi0 hz0 .i64 .i64 ((xs.length : Nat) : Int) ((xs.length : Nat) : Int) (by omega) (Int.le_refl _) (by rw [hz2]; omega) (by omega)
  simp only [Int.toNat_natCast, hz1] at hmk
  obtain ⟨Z, hZ, hZl⟩ : ∃ Z : List Value, madeCells #[Value.string ⟨#[]⟩, Value.string ⟨#[]⟩] (xs.length * 2) = Z.toArray ∧ Z.length = xs.length * 2 := ⟨(madeCells #[Value.string ⟨#[]⟩, Value.string ⟨#[]⟩] (xs.length * 2)).toList, by simp, by rw [Array.length_toList]; exact size_madeCells _ _⟩
  have hmk2 : ∀ W : World, Sem.run Tryz.prog (Instr.makeSlice 23 (.int .i64 (xs.length : Nat)) (.int .i64 (xs.length : Nat))) W = .ok (.slice (some ⟨W.heap.size, 0, none⟩) xs.length xs.length) (W.alloc (.cells Z.toArray 37)) := fun W => by rw [hmk W]; exact congrArg (fun c => Result.ok (Value.slice (some ⟨W.heap.size, 0, none⟩) xs.length xs.length) (W.alloc (.cells c 37))) hZ
  clear hmk hZ hz0 hz1 hz2 hi0 i0
  obtain ⟨W0, hW0⟩ : ∃ W0 : World, W0 = (w.alloc (.cells #[.string d.1, .string d.2] 37)).alloc (.cells Z.toArray 37) := ⟨_, rfl⟩
  have hD : At W0 w.heap.size 37 #[.string d.1, .string d.2] := by rw [hW0]; exact (At.new _ _ _).alloc _
  have hO : At W0 (w.heap.size + 1) 37 Z.toArray := by
    rw [hW0]; have := At.new (w.alloc (.cells #[.string d.1, .string d.2] 37)) 37 Z.toArray
    rwa [World.size_alloc] at this
  have hB : Below w.heap.size w W0 := by rw [hW0]; (repeat' (first | (with_reducible exact Below.refl _ _) | (with_reducible assumption) | (with_reducible refine Below.alloc ?_ ?_ _) | (with_reducible refine Below.drew ?_) | (with_reducible refine Below.setCell ?_ ?_ _) | (with_reducible exact Nat.le_refl _) | omega | ((repeat (first | rewrite [World.size_alloc] | rewrite [World.size_setCell] | rewrite [World.size_drew])); omega) | (simp; omega) | (simp; done)))
  have hB1 : Below (w.heap.size + 1) W0 W0 := Below.refl _ _
  have hl1 := mcells_length xs
  have o1 := mcells_one xs
  have hsp : splice Z 0 (mcells xs) = mcells xs := by unfold splice; simp [hl1, hZl]
  obtain ⟨X1, hX1⟩ : ∃ X, X = mcells xs := ⟨_, rfl⟩
  rw [← hX1] at hsp hl1 o1
  have HX := Lib.hid hX1
  have HSP := Lib.hid hsp
  have hp1 : 0 < Nat.min xs.length xs.length → (some ⟨w.heap.size + 1, 0, none⟩ : Option Addr) = some ⟨w.heap.size + 1, 0, none⟩ ∧ ∃ ad, A = some ad ∧ ∀ j v, X1[j]? = some v → W0.cell? (ad.add j) = some v := fun h => by
    refine ⟨rfl, ?_⟩
    obtain ⟨b, off, rfl, hbl, _, _⟩ := hcell 0 (by have e : Nat.min xs.length xs.length = xs.length := Nat.min_self _; rw [e] at h; exact h)
    refine ⟨_, rfl, fun j u hj => ?_⟩
    rw [show (⟨b, off, none⟩ : Addr).add j = ⟨b, off + j, none⟩ by unfold Addr.add; split <;> simp_all]
    exact (hB.cell hbl).trans (Rd.cellsFrom hx0 j u (by rw [← hX1]; exact hj))
  have HP1 := Lib.hid hp1
  clear hX1 hp1 hcell hx hx0 hsp
  have hm1 : Nat.min xs.length xs.length = xs.length := Nat.min_self _
  have hlt0 := hD.lt
  subst hW0
  go_enter Tryz.func82, Tryz.ntmps82
  go_wp2_with (refine wpList_copyN rfl (.tmp 10) (.tmp 11) 23 23 rfl 37 2 Tryz.underlying23 (by kernel_rfl) (some ⟨w.heap.size + 1, 0, none⟩) A xs.length xs.length xs.length cap (by rfl) (by rfl) (w.heap.size + 1) 0 Z 37 hO X1 (by rw [hl1, hm1]) HP1.out (by rw [hl1, hZl]; omega) o1 (w.heap.size + 1) _ hB1 (Nat.le_refl _) ?_; intro W1 hA1 hb1)
  have hA2 : At W1 (w.heap.size + 1) 37 (mcells (redK d xs 0)).toArray := by
    rw [redK_zero, ← HX.out, ← HSP.out]; exact hA1.out
  have hD2 : At W1 w.heap.size 37 #[.string d.1, .string d.2] := hD.below hb1 (by omega)
  have hb2 : Below w.heap.size w W1 := hB.trans (hb1.mono (by omega))
  have HRL := Lib.hid (redK_len d xs)
  have HRS := Lib.hid (redK_succ d xs)
  have HRA := Lib.hid (redK_at d xs)
  have HRF := Lib.hid (redK_full d xs)
  have HML := Lib.hid (fun k => (mcells_length (redK d xs k)).trans (by rw [redK_len]))
  clear hO hD hB hB1 HX HSP HP1 hA1 hb1
  go_loopw [6, 15] (fun _ i wr => ∃ (k : Nat), k ≤ xs.length ∧ i = .int .i64 k ∧ Below w.heap.size w wr ∧ At wr w.heap.size 37 #[.string d.1, .string d.2] ∧ At wr (w.heap.size + 1) 37 (mcells (redK d xs k)).toArray) (fun _ i _ => xs.length - (RowKit.intOf i).toNat)
  case atStart => exact ⟨0, by omega, rfl, hb2, hD2, hA2⟩
  case round =>
    obtain ⟨k, hk, rfl, hb, hD3, hA3⟩ := hrel
    have hbs := hb.size
    clear hA2 hD2 hb2
    by_cases hlt : k < xs.length
    · have hcs := mcells_at _ _ _ (HRA.out k hlt)
      have hst := HRS.out k hlt
      have hl3 := hA3.lt
      have hl4 := hD3.lt
      have e1 : ∀ j u, (mcells (redK d xs k))[j]? = some u → wr.cell? ⟨w.heap.size + 1, j, none⟩ = some u := fun j u h => (hA3.cell j).trans (by simpa using h)
      have c1 := e1 _ _ hcs.1
      have c2 := e1 _ _ hcs.2
      have z2 := hA3.frozen (k * 2 + 1)
      have d1 : wr.cell? ⟨w.heap.size, 0, none⟩ = some (.string d.1) := hD3.cell 0
      have d2 : wr.cell? ⟨w.heap.size, 1, none⟩ = some (.string d.2) := hD3.cell 1
      have hrb : redB d xs[k] = (decide (xs[k].2 = d.2) && !isD d.2) := rfl
      have hset := mcells_set2 (redK d xs k) k (by rw [HRL.out]; exact hlt) d.1
      have hat := HRA.out k hlt
      rw [List.getElem?_eq_getElem (by rw [HRL.out]; exact hlt), Option.some.injEq] at hat
      rw [hat] at hset
      have HST := Lib.hid hst
      have HSET := Lib.hid hset
      have HAT := Lib.hid hat
      clear hst hset hat e1 hcs
      generalize redB d xs[k] = rb at *
      generalize hm : xs[k] = m at *
      clear hm
      generalize m.1 = x1 at *
      generalize m.2 = x2 at *
      have i0 : (0 : Int) ≤ (k : Int) := by omega
      have i1 : (k : Int) < (xs.length : Int) := by omega
      have E2 : Hid ((mcells (redK d xs k)).toArray[k * 2 + 1]? = some (Value.string x2)) := by show _ = _; rw [← hA3.cell]; exact c2
      have x0 : ∀ x : Ext wr.heap.size wr, x.val.cell? ⟨w.heap.size, 0, none⟩ = some (.string d.1) := fun x => (x.property.cell (p := ⟨w.heap.size, 0, none⟩) hl4).trans d1
      have x1 : ∀ x : Ext wr.heap.size wr, x.val.cell? ⟨w.heap.size, 1, none⟩ = some (.string d.2) := fun x => (x.property.cell (p := ⟨w.heap.size, 1, none⟩) hl4).trans d2
      have x2c : ∀ x : Ext wr.heap.size wr, x.val.cell? ⟨w.heap.size + 1, k * 2 + 1, none⟩ = some (.string x2) := fun x => (x.property.cell (p := ⟨w.heap.size + 1, k * 2 + 1, none⟩) hl3).trans c2
      rcases Bool.eq_false_or_eq_true (x2.toList == d.2.toList) with hd | hd
      · have HD : Hid (decide (x2 = d.2) = true) := by show _ = _; rw [← beq_str]; exact hd
        rcases Bool.eq_false_or_eq_true (isD d.2) with hg | hg
        · have hG : Hid (rb = false) := by show _ = _; rw [hrb, hg]; simp
          clear hrb
          go_wp2
          refine wp_region_ext wr.heap.size (by kernel_rfl) (by kernel_rfl) ?_
          repeat (first | go_big_quiet_step (first | (go_at_call 88; exact ext_same _ (isDigit_c _ _))) | (refine wpQuiet_skip rfl ?_; simp only [Act.put, List.setIfInBounds_toArray, List.set_cons_succ, List.set_cons_zero]))
          refine wpQuiet_nil ?_
          intro w2 hw'
          obtain ⟨xw, hxw⟩ := hw'
          have hb2 := xw.property
          rw [← hxw] at hb2
          clear hxw xw x0 x1 x2c
          have hb3 : Below w.heap.size w w2 := hb.trans (hb2.mono hbs)
          have hA4 := hA3.keep hb2
          have hD4 := hD3.keep hb2
          clear hb2
          go_wp2
          go_roundw
          case rel => exact ⟨k + 1, by omega, by go_num, hb3, hD4, by rw [HST.out, hG.out, if_neg (by decide), ← HAT.out, List.set_getElem_self]; exact hA4⟩
          case measure => simp [RowKit.intOf]; omega
        · have hG : Hid (rb = true) := by show _ = _; rw [hrb, hg, HD.out]; rfl
          clear hrb
          go_wp2
          refine wp_region_ext wr.heap.size (by kernel_rfl) (by kernel_rfl) ?_
          repeat (first | go_big_quiet_step (first | (go_at_call 88; exact ext_same _ (isDigit_c _ _))) | (refine wpQuiet_skip rfl ?_; simp only [Act.put, List.setIfInBounds_toArray, List.set_cons_succ, List.set_cons_zero]))
          refine wpQuiet_nil ?_
          intro w2 hw'
          obtain ⟨xw, hxw⟩ := hw'
          have hb2 := xw.property
          rw [← hxw] at hb2
          clear hxw xw x0 x1 x2c
          have hb3 : Below w.heap.size w w2 := hb.trans (hb2.mono hbs)
          have hA4 := hA3.keep hb2
          have hD4 := hD3.keep hb2
          clear hb2
          have q1 : w2.cell? ⟨w.heap.size, 0, none⟩ = some (.string d.1) := hD4.cell 0
          have q2 : w2.cell? ⟨w.heap.size + 1, k * 2 + 1, none⟩ = some (.string x2) := (hA4.cell _).trans E2.out
          have q3 : w2.frozen? ⟨w.heap.size + 1, k * 2 + 1, none⟩ = false := hA4.frozen _
          have hs3 := hb3.size
          go_wp2
          go_roundw
          case rel =>
            refine ⟨k + 1, by omega, by go_num, hb3.setCell (by simp) _, At.far hD4 (by simp) _, ?_⟩
            rw [HST.out, hG.out, if_pos rfl, ← HSET.out, ← List.setIfInBounds_toArray]
            exact At.set hA4 _ _
          case measure => simp [RowKit.intOf]; omega
      · have hG : Hid (rb = false) := by show _ = _; rw [hrb, ← beq_str, hd]; rfl
        clear hrb
        go_wp2
        refine wp_region_ext wr.heap.size (by kernel_rfl) (by kernel_rfl) ?_
        repeat (first | go_big_quiet_step (first | (go_at_call 88; exact ext_same _ (isDigit_c _ _))) | (refine wpQuiet_skip rfl ?_; simp only [Act.put, List.setIfInBounds_toArray, List.set_cons_succ, List.set_cons_zero]))
        refine wpQuiet_nil ?_
        intro w2 hw'
        obtain ⟨xw, hxw⟩ := hw'
        have hb2 := xw.property
        rw [← hxw] at hb2
        clear hxw xw x0 x1 x2c
        have hb3 : Below w.heap.size w w2 := hb.trans (hb2.mono hbs)
        have hA4 := hA3.keep hb2
        have hD4 := hD3.keep hb2
        clear hb2
        go_wp2
        go_roundw
        case rel => exact ⟨k + 1, by omega, by go_num, hb3, hD4, by rw [HST.out, hG.out, if_neg (by decide), ← HAT.out, List.set_getElem_self]; exact hA4⟩
        case measure => simp [RowKit.intOf]; omega
    · have hk' : k = xs.length := by omega
      subst hk'
      rw [HRF.out] at hA3
      have hrl : (redM d xs).length = xs.length := redM_len d xs
      have ho := own_at wr (w.heap.size + 1) w.heap.size 37 (redM d xs) hA3 (by omega) (by omega)
      rw [hrl] at ho
      have HO := Lib.hid ho
      have HL := Lib.hid hrl
      clear ho hrl hA3
      go_wp2
      go_ret
      exact ⟨_, rfl, by rw [HL.out]; exact HO.out, hb⟩
end Go.Proofs.YtplapaojgcloaaaGreatDoor
namespace Go.PM
open Go.RowKit
/-- an array of nine numbers -/
def cntC (f : Nat → Nat) : Array Value := #[.int .i64 (f 0 : Nat), .int .i64 (f 1 : Nat), .int .i64 (f 2 : Nat), .int .i64 (f 3 : Nat), .int .i64 (f 4 : Nat), .int .i64 (f 5 : Nat), .int .i64 (f 6 : Nat), .int .i64 (f 7 : Nat), .int .i64 (f 8 : Nat)]
theorem cntC_at (f : Nat → Nat) (p : Nat) (hp : p < 9) : (cntC f)[p]? = some (.int .i64 (f p : Nat)) := by
  match p, hp with
  | 0, _ | 1, _ | 2, _ | 3, _ | 4, _ | 5, _ | 6, _ | 7, _ | 8, _ => rfl
theorem cntC_set (f : Nat → Nat) (p : Nat) (hp : p < 9) (n : Nat) : (cntC f).setIfInBounds p (.int .i64 (n : Nat)) = cntC (fun q => if q = p then n else f q) := by
  match p, hp with
  | 0, _ | 1, _ | 2, _ | 3, _ | 4, _ | 5, _ | 6, _ | 7, _ | 8, _ => simp [cntC]
theorem cntC_congr {f g : Nat → Nat} (h : ∀ p, p < 9 → f p = g p) : cntC f = cntC g := by
  unfold cntC
  rw [h 0 (by omega), h 1 (by omega), h 2 (by omega), h 3 (by omega), h 4 (by omega), h 5 (by omega), h 6 (by omega), h 7 (by omega), h 8 (by omega)]
theorem cntC_one (f : Nat → Nat) : (cntC f).all (·.oneCell') = true := by simp [cntC, Value.oneCell']
/-- how many of the moves read each place -/
def cntF (xs : List Mv) (p : Nat) : Nat := rdN xs (nm p)
theorem rdN_snoc (xs : List Mv) (x : Mv) (a : ByteArray) : rdN (xs ++ [x]) a = rdN xs a + if x.2 = a then 1 else 0 := by
  unfold rdN
  rw [List.map_append, List.count_append, List.map_cons, List.map_nil, List.count_cons]
  simp
theorem rdN_le (xs : List Mv) (a : ByteArray) : rdN xs a ≤ xs.length := by
  unfold rdN
  have := List.count_le_length (a := a) (l := xs.map (·.2))
  simpa using this
theorem cntF_yes (xs : List Mv) (x : Mv) (h : isP x.2 = true) : cntC (fun q => if q = pidx x.2 then cntF xs (pidx x.2) + 1 else cntF xs q) = cntC (cntF (xs ++ [x])) := by
  refine cntC_congr fun p hp => ?_
  have hx := pidx_spec h
  unfold cntF
  rw [rdN_snoc]
  by_cases e : p = pidx x.2
  · subst e
    rw [if_pos rfl, if_pos hx.2.symm]
  · rw [if_neg e, if_neg (fun e2 => e (by rw [e2, pidx_nm hp]))]; rfl
theorem cntF_no (xs : List Mv) (x : Mv) (h : isP x.2 = false) : cntC (cntF xs) = cntC (cntF (xs ++ [x])) := by
  refine cntC_congr fun p hp => ?_
  unfold cntF
  rw [rdN_snoc, if_neg (fun e => by rw [e, isP_nm hp] at h; cases h)]; rfl
end Go.PM
namespace Go.Proofs.YtplapaojgcloaaaGreatDoor
open Go.RowKit Go.PM

set_option maxRecDepth 100000 in
set_option maxHeartbeats 1600000 in
theorem countReaders_c (xs : List Mv) (v : Value) (w : World) (hx : RdM w v xs) (hn' : xs.length ≤ 1048576) :
    Calls Tryz.prog 100 #[v] w fun e w' => e = .returned (.agg (cntC (cntF xs))) ∧ Below w.heap.size w w' := by
  obtain ⟨A, cap, rfl, hn, hc, hcell⟩ := hx.open
  have hz : (#[.int .i64 0, .int .i64 0, .int .i64 0, .int .i64 0, .int .i64 0, .int .i64 0, .int .i64 0, .int .i64 0, .int .i64 0] : Array Value) = cntC (cntF []) := rfl
  go_enter Tryz.func100, Tryz.ntmps100
  go_wp2
  clear hz
  obtain ⟨W0, hW0⟩ : ∃ W0 : World, W0 = (w.alloc (Obj.cells (cntC (cntF [])) 138)).alloc (Obj.cells (cntC (cntF [])) 138) := ⟨_, rfl⟩
  have hB0 : Below w.heap.size w W0 := by rw [hW0]; (repeat' (first | (with_reducible exact Below.refl _ _) | (with_reducible assumption) | (with_reducible refine Below.alloc ?_ ?_ _) | (with_reducible refine Below.drew ?_) | (with_reducible refine Below.setCell ?_ ?_ _) | (with_reducible exact Nat.le_refl _) | omega | ((repeat (first | rewrite [World.size_alloc] | rewrite [World.size_setCell] | rewrite [World.size_drew])); omega) | (simp; omega) | (simp; done)))
  have hA0 : At W0 w.heap.size 138 (cntC (cntF [])) := by rw [hW0]; exact (At.new _ _ _).alloc _
  have hA1 : At W0 (w.heap.size + 1) 138 (cntC (cntF [])) := by
    rw [hW0]; have := At.new (w.alloc (Obj.cells (cntC (cntF [])) 138)) 138 (cntC (cntF []))
    rwa [World.size_alloc] at this
  rw [← hW0]
  clear hW0
  go_loopw [5, 6, 7, 10] (fun _ _ _ i wr => ∃ (k : Nat), k ≤ xs.length ∧ i = .int .i64 k ∧ Below w.heap.size w wr ∧ At wr w.heap.size 138 (cntC (cntF [])) ∧ At wr (w.heap.size + 1) 138 (cntC (cntF (xs.take k)))) (fun _ _ _ i _ => xs.length - (RowKit.intOf i).toNat)
  case atStart => exact ⟨0, by omega, rfl, hB0, hA0, by simpa using hA1⟩
  case round =>
    obtain ⟨k, hk, rfl, hb, hA2, hA4⟩ := hrel
    have hbs := hb.size
    have hlt4 := hA4.lt
    by_cases hlt : k < xs.length
    · obtain ⟨b, off, rfl, hbl, hc1, hc2⟩ := hcell k hlt
      have hd1 := (hb.cell (p := ⟨b, off + k * 2, none⟩) hbl).trans hc1
      have hd2 := (hb.cell (p := ⟨b, off + k * 2 + 1, none⟩) hbl).trans hc2
      clear hc1 hc2 hcell
      have hsn := take_snoc xs k hlt
      have hY := cntF_yes (xs.take k) xs[k]
      have hN := cntF_no (xs.take k) xs[k]
      have hle : ∀ p, cntF (xs.take k) p ≤ 1048576 := fun p => by
        have := rdN_le (xs.take k) (nm p)
        rw [List.length_take] at this
        unfold cntF; omega
      rw [← hsn] at hY hN
      clear hsn
      generalize xs[k].1 = a at *
      generalize xs[k].2 = b2 at *
      have HY := Lib.hid hY
      have HN := Lib.hid hN
      generalize hG : cntF (xs.take k) = G at *
      clear hY hN hG
      rcases Bool.eq_false_or_eq_true (isP b2) with hp | hp
      · have hp9 := (pidx_spec hp).1
        have HS := Lib.hid ((cntC_set G (pidx b2) hp9 (G (pidx b2) + 1)).trans (HY.out hp))
        have hkc : At (wr.alloc (.cells #[.string a, .string b2] 37)) (w.heap.size + 1) 138 (cntC G) := hA4.alloc _
        have c4 := (hkc.cell (pidx b2)).trans (cntC_at G _ hp9)
        have z4 := hkc.frozen (pidx b2)
        have hgl := hle (pidx b2)
        have i0 : (0 : Int) ≤ (pidx b2 : Int) := by omega
        have i1 : (pidx b2 : Int) < 9 := by omega
        have HI := Lib.hid (fun W => indexOf_yes b2 hp W)
        generalize pidx b2 = q at *
        generalize G q = gq at *
        go_wp2_with (go_at_call 102; refine (HI.out _).mono ?_; rintro e w' ⟨rfl, rfl⟩)
        go_roundw
        case rel =>
          refine ⟨k + 1, by omega, by go_num, by (repeat' (first | (with_reducible exact Below.refl _ _) | (with_reducible assumption) | (with_reducible refine Below.alloc ?_ ?_ _) | (with_reducible refine Below.drew ?_) | (with_reducible refine Below.setCell ?_ ?_ _) | (with_reducible exact Nat.le_refl _) | omega | ((repeat (first | rewrite [World.size_alloc] | rewrite [World.size_setCell] | rewrite [World.size_drew])); omega) | (simp; omega) | (simp; done))), (At.far hA2 (by simp) _).alloc _, ?_⟩
          rw [← HS.out]
          exact (hA4.set q _).alloc _
        case measure => simp [RowKit.intOf]; omega
      · go_wp2_with (go_at_call 102; refine (indexOf_no b2 hp _).mono ?_; rintro e w' ⟨rfl, rfl⟩)
        go_roundw
        case rel =>
          refine ⟨k + 1, by omega, by go_num, by (repeat' (first | (with_reducible exact Below.refl _ _) | (with_reducible assumption) | (with_reducible refine Below.alloc ?_ ?_ _) | (with_reducible refine Below.drew ?_) | (with_reducible refine Below.setCell ?_ ?_ _) | (with_reducible exact Nat.le_refl _) | omega | ((repeat (first | rewrite [World.size_alloc] | rewrite [World.size_setCell] | rewrite [World.size_drew])); omega) | (simp; omega) | (simp; done))), hA2.alloc _, ?_⟩
          rw [← HN.out hp]
          exact hA4.alloc _
        case measure => simp [RowKit.intOf]; omega
    · have hk' : k = xs.length := by omega
      rw [hk', List.take_of_length_le (Nat.le_refl _)] at hA4
      clear hk' hcell
      have hGG := Lib.hid (fun (e : Ending) (h : e = Ending.returned (.agg (cntC (cntF xs)))) => h)
      obtain ⟨G, hG⟩ : ∃ G, G = cntF xs := ⟨_, rfl⟩
      rw [← hG] at hA4
      have HG := Lib.hid hG
      clear hG hGG
      have hl2 := hA2.lt
      go_wp2_with (first | (refine ld_row rfl 138 (.tmp 3) rfl (w.heap.size + 1) 138 (cntC G) hA4 (by rfl) 9 3 Tryz.underlying138 (by kernel_rfl) ?_) | (refine st_row rfl 138 (.tmp 2) (.tmp 27) rfl rfl w.heap.size 138 (cntC (cntF [])) (cntC G) hA2 (by rfl) (by rfl) (by kernel_rfl) rfl (cntC_one _) ?_; intro W6 hA6 hg6))
      have bel : Below w.heap.size w W6 := hb.trans (below_grown hg6 hbs (fun g hg => by cases hg; omega))
      exact bodyPost_ret (v := .agg (cntC G)) (results_row1 Tryz.results100 _ _ w.heap.size 138 (cntC G) (by rfl) hA6 9 3 Tryz.underlying138 (by kernel_rfl)) rfl ⟨by rw [HG.out], bel⟩
/-- whether a move can be done ahead of those that are counted -/
def aheadP (xs : List Mv) (m : Mv) : Bool := decide (rdN xs m.1 = 0)
set_option maxRecDepth 100000 in
set_option maxHeartbeats 1600000 in
theorem ahead_c (xs : List Mv) (m : Mv) (hp : isP m.1 = true) (w : World) (hle : xs.length ≤ 1048576) :
    Calls Tryz.prog 101 #[.agg (cntC (cntF xs)), .agg #[.string m.1, .string m.2]] w fun e w' => e = .returned (.bool (freeB xs m)) ∧ Below w.heap.size w w' := by
  have hp9 := (pidx_spec hp).1
  have hf : Hid (freeB xs m = ((cntF xs (pidx m.1) : Int) == 0)) := by
    show _ = _
    unfold freeB cntF
    rw [(pidx_spec hp).2]
    rw [Bool.eq_iff_iff]; simp
  have hcn := cntC_at (cntF xs) (pidx m.1) hp9
  have hg0 : cntF xs (pidx m.1) ≤ 1048576 := by have := rdN_le xs (nm (pidx m.1)); unfold cntF; omega
  have hnew := At.new w 138 (cntC (cntF xs))
  have hnew2 := hnew.alloc (.cells #[.string m.1, .string m.2] 37)
  have c4 := (hnew2.cell (pidx m.1)).trans hcn
  have hl := hnew2.lt
  have i0 : (0 : Int) ≤ (pidx m.1 : Int) := by omega
  have i1 : (pidx m.1 : Int) < 9 := by omega
  have HY := Lib.hid (fun W => indexOf_yes m.1 hp W)
  generalize cntF xs (pidx m.1) = n0 at *
  generalize cntC (cntF xs) = G at *
  generalize pidx m.1 = q at *
  clear hcn
  go_enter Tryz.func101, Tryz.ntmps101
  go_wp2_with (go_at_call 102; refine (HY.out _).mono ?_; rintro e w' ⟨rfl, rfl⟩)
  go_ret
  exact ⟨by rw [hf.out]; rfl, by (repeat' (first | (with_reducible exact Below.refl _ _) | (with_reducible assumption) | (with_reducible refine Below.alloc ?_ ?_ _) | (with_reducible refine Below.drew ?_) | (with_reducible refine Below.setCell ?_ ?_ _) | (with_reducible exact Nat.le_refl _) | omega | ((repeat (first | rewrite [World.size_alloc] | rewrite [World.size_setCell] | rewrite [World.size_drew])); omega) | (simp; omega) | (simp; done)))⟩
end Go.Proofs.YtplapaojgcloaaaGreatDoor
namespace Go.PM
open Go.RowKit
theorem aheadZ_at {xs : List Mv} {k : Nat} (hk : k < xs.length) (h : ∀ j (hj : j < k), freeB xs (xs[j]'(by omega)) = false) (hf : freeB xs xs[k] = true) : aheadZ xs = (k : Int) := by
  have : aheadI xs = some k := by
    unfold aheadI
    rw [List.findIdx?_eq_some_iff_getElem]
    exact ⟨hk, hf, fun j hj => by rw [h j hj]; decide⟩
  unfold aheadZ; rw [this]
theorem aheadZ_none {xs : List Mv} (h : ∀ j (hj : j < xs.length), freeB xs xs[j] = false) : aheadZ xs = -1 := by
  have : aheadI xs = none := by
    unfold aheadI
    rw [List.findIdx?_eq_none_iff]
    intro m hm
    obtain ⟨j, hj, rfl⟩ := List.getElem_of_mem hm
    exact h j hj
  unfold aheadZ; rw [this]
theorem aheadZ_lt (xs : List Mv) : aheadZ xs = -1 ∨ ∃ i : Nat, i < xs.length ∧ aheadZ xs = i ∧ aheadI xs = some i := by
  cases h : aheadI xs with
  | none => left; unfold aheadZ; rw [h]
  | some i =>
    right
    obtain ⟨hi, _⟩ := aheadI_some h
    exact ⟨i, hi, by unfold aheadZ; rw [h], rfl⟩
theorem aheadI_of_neg {xs : List Mv} (h : aheadZ xs = -1) : aheadI xs = none := by
  cases h2 : aheadI xs with
  | none => rfl
  | some i =>
    unfold aheadZ at h
    rw [h2] at h
    simp only at h
    omega
end Go.PM
namespace Go.Proofs.YtplapaojgcloaaaGreatDoor
open Go.RowKit Go.PM

set_option maxRecDepth 100000 in
set_option maxHeartbeats 1600000 in
theorem indexFunc_c (xs : List Mv) (v : Value) (w : World) (hx : RdM w v xs) (hn' : xs.length ≤ 1048576) (hP : ∀ m ∈ xs, isP m.1 = true) :
    Calls Tryz.prog 99 #[v, .func (.func 101) #[.agg (cntC (cntF xs))] #[]] w fun e w' => e = .returned (.int .i64 (aheadZ xs)) ∧ Below w.heap.size w w' := by
  obtain ⟨A, cap, rfl, hn, hc, hcell⟩ := hx.open
  have HA := Lib.hid (fun m W hp => ahead_c xs m hp W hn')
  have HP := Lib.hid hP
  have HZ := Lib.hid (aheadZ_none (xs := xs))
  have HK := Lib.hid (fun k hk h => aheadZ_at (xs := xs) (k := k) hk h)
  clear hP
  generalize cntC (cntF xs) = G at *
  go_enter Tryz.func99, Tryz.ntmps99
  go_wp2
  go_loopw [5, 8] (fun _ i wr => ∃ (k : Nat), k ≤ xs.length ∧ i = .int .i64 k ∧ Below w.heap.size w wr ∧ Hid (∀ j (hj : j < k) (hj2 : j < xs.length), freeB xs xs[j] = false)) (fun _ i _ => xs.length - (RowKit.intOf i).toNat)
  case atStart => exact ⟨0, by omega, rfl, Below.refl _ _, fun j hj => by omega⟩
  case round =>
    obtain ⟨k, hk, rfl, hb, hm⟩ := hrel
    have hbs := hb.size
    by_cases hlt : k < xs.length
    · obtain ⟨b, off, rfl, hbl, hc1, hc2⟩ := hcell k hlt
      have hd1 := (hb.cell (p := ⟨b, off + k * 2, none⟩) hbl).trans hc1
      have hd2 := (hb.cell (p := ⟨b, off + k * 2 + 1, none⟩) hbl).trans hc2
      clear hc1 hc2 hcell
      have ha := HA.out xs[k] wr (HP.out _ (List.getElem_mem hlt))
      have HKK := Lib.hid (fun h => HK.out k hlt h)
      have HNX : Hid (freeB xs xs[k] = false → ∀ j (hj : j < k + 1) (hj2 : j < xs.length), freeB xs xs[j] = false) := fun h j hj hj2 => by
        by_cases e : j = k
        · subst e; exact h
        · exact hm.out j (by omega) hj2
      generalize freeB xs xs[k] = fb at *
      generalize xs[k].1 = x1 at *
      generalize xs[k].2 = x2 at *
      have HAA := Lib.hid ha
      clear ha
      cases fb with
      | true =>
        go_wp2_with (go_at_call 101; refine HAA.out.mono ?_; rintro e w3 ⟨rfl, hb3⟩)
        go_ret
        exact ⟨by rw [HKK.out (fun j hj => hm.out j hj (by omega)) (by first | trivial | rfl)]; rfl, hb.trans (hb3.mono hbs)⟩
      | false =>
        go_wp2_with (go_at_call 101; refine HAA.out.mono ?_; rintro e w3 ⟨rfl, hb3⟩)
        go_roundw
        case rel => exact ⟨k + 1, by omega, by go_num, hb.trans (hb3.mono hbs), HNX.out (by first | trivial | rfl)⟩
        case measure => simp [RowKit.intOf]; omega
    · have hz := HZ.out fun j hj => hm.out j (by omega) hj
      have HZZ := Lib.hid hz
      clear hz
      go_wp2
      go_ret
      exact ⟨by rw [HZZ.out]; rfl, hb⟩
set_option maxRecDepth 100000 in
set_option maxHeartbeats 1600000 in
theorem firstAhead_c (xs : List Mv) (v : Value) (w : World) (hx : RdM w v xs) (hn' : xs.length ≤ 1048576) (hP : ∀ m ∈ xs, isP m.1 = true) :
    Calls Tryz.prog 80 #[v] w fun e w' => e = .returned (.int .i64 (aheadZ xs)) ∧ Below w.heap.size w w' := by
  go_enter Tryz.func80, Tryz.ntmps80
  go_wp2_with fail
  refine (countReaders_c xs v _ hx hn').mono ?_
  rintro e w1 ⟨rfl, hb1⟩
  have hs1 := hb1.size
  have hx1 := hx.below hb1
  go_wp2_with fail
  refine (indexFunc_c xs v _ hx1 hn' hP).mono ?_
  rintro e w2 ⟨rfl, hb2⟩
  have hb := hb1.trans (hb2.mono hs1)
  clear hb2
  go_wp2
  go_ret
  exact ⟨rfl, hb⟩
end Go.Proofs.YtplapaojgcloaaaGreatDoor
namespace Go.PM
open Go.RowKit
theorem rdN_take (xs : List Mv) (k : Nat) (hk : k < xs.length) (a : ByteArray) : rdN (xs.take (k + 1)) a = rdN (xs.take k) a + if xs[k].2 = a then 1 else 0 := by
  rw [take_snoc xs k hk]
  unfold rdN
  rw [List.map_append, List.count_append, List.map_cons, List.map_nil, List.count_cons]
  simp
theorem instM_take (a b : ByteArray) (xs : List Mv) (k : Nat) (hk : k < xs.length) : instM a b (xs.take (k + 1)) = instM a b (xs.take k) ++ [(xs[k].1, if xs[k].2 = a then b else xs[k].2)] := by
  rw [take_snoc xs k hk]
  unfold instM
  rw [List.map_append, List.map_cons, List.map_nil]
  by_cases h : xs[k].2 = a
  · rw [if_pos h, if_pos h]
  · rw [if_neg h, if_neg h]
def readB (xs : List Mv) (a : ByteArray) : Bool := decide (rdN xs a ≠ 0)
theorem readB_at {xs : List Mv} {k : Nat} (hk : k < xs.length) {a : ByteArray} (h : xs[k].2 = a) : readB xs a = true := by
  unfold readB
  rw [decide_eq_true_eq]
  intro e
  exact rdN_zero.1 e _ (List.getElem_mem hk) h
theorem readB_no {xs : List Mv} {a : ByteArray} (h : rdN xs a = 0) : readB xs a = false := by
  unfold readB; rw [decide_eq_false_iff_not]; exact fun e => e h
end Go.PM
namespace Go.Proofs.YtplapaojgcloaaaGreatDoor
open Go.RowKit Go.PM
attribute [local go_sem] Oper.semAt_some

set_option maxRecDepth 100000 in
set_option maxHeartbeats 800000 in
theorem l5Read_c (xs : List Mv) (v : Value) (a : ByteArray) (w : World) (hx : RdM w v xs) :
    Calls Tryz.prog 83 #[v, .string a] w fun e w' => e = .returned (.bool (readB xs a)) ∧ Below w.heap.size w w' := by
  obtain ⟨A, cap, rfl, hn, hc, hcell⟩ := hx.open
  have HRN := Lib.hid (readB_no (xs := xs) (a := a))
  go_enter Tryz.func83, Tryz.ntmps83
  go_wp2
  go_loopw [6, 9] (fun _ i wr => ∃ (k : Nat), k ≤ xs.length ∧ i = .int .i64 k ∧ Hid (rdN (xs.take k) a = 0) ∧ Below w.heap.size w wr) (fun _ i _ => xs.length - (intOf i).toNat)
  case atStart => exact ⟨0, by omega, rfl, by show _ = _; simp [rdN], Below.refl _ _⟩
  case round =>
    obtain ⟨k, hk, rfl, hm, hb⟩ := hrel
    have hbs := hb.size
    by_cases hlt : k < xs.length
    · obtain ⟨b, off, rfl, hbl, hc1, hc2⟩ := hcell k hlt
      have hd1 := (hb.cell (p := ⟨b, off + k * 2, none⟩) hbl).trans hc1
      have hd2 := (hb.cell (p := ⟨b, off + k * 2 + 1, none⟩) hbl).trans hc2
      clear hc1 hc2 hcell
      have HR := Lib.hid (rdN_take xs k hlt a)
      have HY := Lib.hid (readB_at (xs := xs) (a := a) hlt)
      generalize xs[k].1 = x1 at *
      generalize xs[k].2 = x2 at *
      go_wp2
      · have h : (x2.toList == a.toList) = true := by assumption
        rw [beq_str, decide_eq_true_eq] at h
        go_ret
        exact ⟨by rw [HY.out h]; rfl, by (repeat' (first | (with_reducible exact Below.refl _ _) | (with_reducible assumption) | (with_reducible refine Below.alloc ?_ ?_ _) | (with_reducible refine Below.drew ?_) | (with_reducible refine Below.setCell ?_ ?_ _) | (with_reducible exact Nat.le_refl _) | omega | ((repeat (first | rewrite [World.size_alloc] | rewrite [World.size_setCell] | rewrite [World.size_drew])); omega) | (simp; omega) | (simp; done)))⟩
      · have h : (x2.toList == a.toList) = false := by assumption
        rw [beq_str, decide_eq_false_iff_not] at h
        go_roundw
        case rel => exact ⟨k + 1, by omega, by go_num, by show _ = _; rw [HR.out, hm.out, if_neg h], by (repeat' (first | (with_reducible exact Below.refl _ _) | (with_reducible assumption) | (with_reducible refine Below.alloc ?_ ?_ _) | (with_reducible refine Below.drew ?_) | (with_reducible refine Below.setCell ?_ ?_ _) | (with_reducible exact Nat.le_refl _) | omega | ((repeat (first | rewrite [World.size_alloc] | rewrite [World.size_setCell] | rewrite [World.size_drew])); omega) | (simp; omega) | (simp; done)))⟩
        case measure => simp [intOf]; omega
    · have hk' : k = xs.length := by omega
      have h1 := hm.out
      rw [hk', List.take_of_length_le (Nat.le_refl _)] at h1
      have HF := Lib.hid (HRN.out h1)
      clear h1 hk'
      go_wp2
      go_ret
      exact ⟨by rw [HF.out]; rfl, hb⟩
set_option maxRecDepth 100000 in
set_option maxHeartbeats 1600000 in
theorem l5Instead_c (xs : List Mv) (v : Value) (a c : ByteArray) (w : World) (hx : RdM w v xs) (hn' : xs.length ≤ 1048575) :
    Calls Tryz.prog 54 #[v, .string a, .string c] w fun e w' => ∃ v', e = .returned v' ∧ w'.ownsRow w.heap.size 37 2 v' (instM a c xs).length (mcells (instM a c xs)) ∧ Below w.heap.size w w' := by
  obtain ⟨A, cap, rfl, hn, hc, hcell⟩ := hx.open
  have hE := World.ownsRow_lit (e := 37) (base := w.heap.size) (size := 2) w #[] 0 (Nat.le_refl _) (Nat.zero_le _) rfl
  have HL := Lib.hid (fun k => instM_len a c (xs.take k))
  go_enter Tryz.func54, Tryz.ntmps54
  go_wp2
  go_loopw [7, 9, 13] (fun o _ i wr => ∃ (k : Nat), k ≤ xs.length ∧ i = .int .i64 k ∧ wr.ownsRow w.heap.size 37 2 o (instM a c (xs.take k)).length (mcells (instM a c (xs.take k))) ∧ Below w.heap.size w wr) (fun _ _ i _ => xs.length - (intOf i).toNat)
  case atStart => exact ⟨0, by omega, rfl, hE, by (repeat' (first | (with_reducible exact Below.refl _ _) | (with_reducible assumption) | (with_reducible refine Below.alloc ?_ ?_ _) | (with_reducible refine Below.drew ?_) | (with_reducible refine Below.setCell ?_ ?_ _) | (with_reducible exact Nat.le_refl _) | omega | ((repeat (first | rewrite [World.size_alloc] | rewrite [World.size_setCell] | rewrite [World.size_drew])); omega) | (simp; omega) | (simp; done)))⟩
  case round =>
    obtain ⟨k, hk, rfl, ho, hb⟩ := hrel
    have hbs := hb.size
    by_cases hlt : k < xs.length
    · obtain ⟨b, off, rfl, hbl, hc1, hc2⟩ := hcell k hlt
      have hd1 := (hb.cell (p := ⟨b, off + k * 2, none⟩) hbl).trans hc1
      have hd2 := (hb.cell (p := ⟨b, off + k * 2 + 1, none⟩) hbl).trans hc2
      have hst := instM_take a c xs k hlt
      have hle := HL.out k
      rw [List.length_take] at hle
      clear hc1 hc2 hcell
      generalize xs[k].1 = x1 at *
      generalize xs[k].2 = x2 at *
      have HST := Lib.hid hst
      clear hst
      generalize instM a c (xs.take k) = ys at *
      by_cases hxa : x2 = a
      · have hbq : (x2.toList == a.toList) = true := by rw [beq_str]; simpa using hxa
        have hs := HST.out
        rw [if_pos hxa] at hs
        have HS := Lib.hid hs
        clear hs hxa
        have hnw := two_new (wr.alloc (.cells #[.string x1, .string c] 37)) (.string x1) (.string c) 37
        rw [World.size_alloc] at hnw
        go_wp2_with (at_builtin; refine held ?_)
        unfold Held
        refine app_mv rfl (.tmp 23) (.tmp 25) rfl w.heap.size u7 ys (x1, c) ⟨wr.heap.size + 1, 0, none⟩ 1 (by rfl) (by rfl) (own_keep (own_keep ho ((Below.refl _ _).alloc (Nat.le_refl _) _)) ((Below.refl _ _).alloc (Nat.le_refl _) _)) hnw (by omega) (by simp; omega) ?_
        intro v' w3 hown3 hgrow3
        have hb3 := below_grown hgrow3 (B := w.heap.size) (by simp; omega) (own_block_ge ho)
        have hbx : Below w.heap.size w ((wr.alloc (.cells #[.string x1, .string c] 37)).alloc (.cells #[.string x1, .string c] 37)) := by (repeat' (first | (with_reducible exact Below.refl _ _) | (with_reducible assumption) | (with_reducible refine Below.alloc ?_ ?_ _) | (with_reducible refine Below.drew ?_) | (with_reducible refine Below.setCell ?_ ?_ _) | (with_reducible exact Nat.le_refl _) | omega | ((repeat (first | rewrite [World.size_alloc] | rewrite [World.size_setCell] | rewrite [World.size_drew])); omega) | (simp; omega) | (simp; done)))
        have hb4 := hbx.trans hb3
        rw [← HS.out] at hown3
        clear hnw hgrow3 hb3 hbx
        go_wp2
        go_roundw
        case rel => exact ⟨k + 1, by omega, by go_num, hown3, hb4⟩
        case measure => simp [intOf]; omega
      · have hbq : (x2.toList == a.toList) = false := by rw [beq_str]; simpa using hxa
        have hs := HST.out
        rw [if_neg hxa] at hs
        have HS := Lib.hid hs
        clear hs hxa
        have hnw := two_new (wr.alloc (.cells #[.string x1, .string x2] 37)) (.string x1) (.string x2) 37
        rw [World.size_alloc] at hnw
        go_wp2_with (at_builtin; refine held ?_)
        unfold Held
        refine app_mv rfl (.tmp 23) (.tmp 25) rfl w.heap.size u7 ys (x1, x2) ⟨wr.heap.size + 1, 0, none⟩ 1 (by rfl) (by rfl) (own_keep (own_keep ho ((Below.refl _ _).alloc (Nat.le_refl _) _)) ((Below.refl _ _).alloc (Nat.le_refl _) _)) hnw (by omega) (by simp; omega) ?_
        intro v' w3 hown3 hgrow3
        have hb3 := below_grown hgrow3 (B := w.heap.size) (by simp; omega) (own_block_ge ho)
        have hbx : Below w.heap.size w ((wr.alloc (.cells #[.string x1, .string x2] 37)).alloc (.cells #[.string x1, .string x2] 37)) := by (repeat' (first | (with_reducible exact Below.refl _ _) | (with_reducible assumption) | (with_reducible refine Below.alloc ?_ ?_ _) | (with_reducible refine Below.drew ?_) | (with_reducible refine Below.setCell ?_ ?_ _) | (with_reducible exact Nat.le_refl _) | omega | ((repeat (first | rewrite [World.size_alloc] | rewrite [World.size_setCell] | rewrite [World.size_drew])); omega) | (simp; omega) | (simp; done)))
        have hb4 := hbx.trans hb3
        rw [← HS.out] at hown3
        clear hnw hgrow3 hb3 hbx
        go_wp2
        go_roundw
        case rel => exact ⟨k + 1, by omega, by go_num, hown3, hb4⟩
        case measure => simp [intOf]; omega
    · have hk' : k = xs.length := by omega
      have ho2 := ho
      rw [hk', List.take_of_length_le (Nat.le_refl _)] at ho2
      clear hk' ho
      go_wp2
      go_ret
      exact ⟨_, rfl, ho2, hb⟩
end Go.Proofs.YtplapaojgcloaaaGreatDoor
namespace Go.PM
open Go.RowKit
theorem add_off (b off j : Nat) : (⟨b, off, none⟩ : Addr).add j = ⟨b, off + j, none⟩ := by
  unfold Addr.add; split <;> simp_all
theorem own_lit1 (w : World) (e : TypeId) (base B : Nat) (hB : w.heap.size = B) (hb : base ≤ B) : (w.alloc (.cells #[] e)).drew.ownsRow base e 2 (.slice (some ⟨B, 0, none⟩) 0 0) ([] : List Mv).length (mcells []) := by
  subst hB
  exact World.ownsRow_lit (e := e) (base := base) (size := 2) w #[] 0 hb (Nat.zero_le _) rfl
end Go.PM
namespace Go.Proofs.YtplapaojgcloaaaGreatDoor
open Go.RowKit Go.PM
attribute [local go_sem] Oper.semAt_some

/-- append of moves that lie somewhere, as a step of a region that draws -/
theorem step_appM {ops : Array Oper} {o : Oper} {a : Act} {w : World} {K : Act → World → Prop} {Q : Exit → Act → World → Prop} {E : Prop} (hgd : o.guard = none) (s x : Operand)
    (ho : o.op = .call { callee := .builtin .append, args := #[s, x], argTypes := #[23, 23] })
    (base : Nat) (v : Value) (ys zs : List Mv) (ad : Addr) (c : Nat) (hs : a.eval s = v) (hx : a.eval x = .slice (some ad) zs.length c)
    (hown : w.ownsRow base 37 2 v ys.length (mcells ys)) (hnew : ∀ j u, (mcells zs)[j]? = some u → w.cell? (ad.add j) = some u)
    (hlen : ys.length + zs.length ≤ 1048576) (hbase : base ≤ w.heap.size)
    (h : ∀ v' w', Hid (w'.ownsRow base 37 2 v' (ys ++ zs).length (mcells (ys ++ zs))) → w.grownBy w' v.ownBlock → K (a.put o.dst v') w') :
    if Region.wanted o (yielded ops a.tmps) = true then Oper.wp Tryz.prog o a w K Q else E := by
  have hw : Region.wanted o (yielded ops a.tmps) = true := by simp [Region.wanted, hgd]
  rw [if_pos hw]
  obtain ⟨i0, hi0, hz0, hz1, hz2⟩ := info_parts infoMv
  obtain ⟨v', w', hr, h2, h3, _⟩ := run_append_own (P := Tryz.prog) w base 23 o.type 37 i0 _ 2 32 Tryz.underlying23 hi0 hz0 hz1 hz2 rfl (by omega) v ys.length (mcells ys) hown ad zs.length c (mcells zs) (mcells_length zs) hnew (mcells_one zs) (by simp only [maxLen]; omega) (by omega) hbase
  unfold Oper.wp
  simp [execOp, ho, resolve, invoke, builtin, hs, hx, hr, Result.andThen]
  refine h v' w' ?_ h3
  show World.ownsRow _ _ _ _ _ _ _
  rw [mcells_append, List.length_append]
  exact h2

set_option maxRecDepth 100000 in
set_option maxHeartbeats 3200000 in
theorem l5Next_c (xs : List Mv) (v : Value) (w : World) (hx : RdM w v xs) (hn' : xs.length ≤ 1048575) (hne : ∀ m ∈ xs, m.1 ≠ m.2) :
    Calls Tryz.prog 53 #[v] w fun e w' => e = .returned (.int .i64 (aheadZ xs)) ∧ Below w.heap.size w w' := by
  have hx0 := hx
  obtain ⟨A, cap, rfl, hn, hc, hcell⟩ := hx.open
  have HZ := Lib.hid (aheadZ_none (xs := xs))
  have HK := Lib.hid (fun k hk h => aheadZ_at (xs := xs) (k := k) hk h)
  have HRD := Lib.hid (fun ys v a W h => l5Read_c ys v a W h)
  have HNE := Lib.hid hne
  clear hne hx
  go_enter Tryz.func53, Tryz.ntmps53
  go_wp2
  go_loopw [3, 4, 5, 8] (fun _ _ _ i wr => ∃ (k : Nat), k ≤ xs.length ∧ i = .int .i64 k ∧ Below w.heap.size w wr ∧ Hid (∀ j (hj : j < k) (hj2 : j < xs.length), freeB xs xs[j] = false)) (fun _ _ _ i _ => xs.length - (RowKit.intOf i).toNat)
  case atStart => exact ⟨0, by omega, rfl, Below.refl _ _, fun j hj => by omega⟩
  case round =>
    obtain ⟨k, hk, rfl, hb, hm⟩ := hrel
    have hbs := hb.size
    by_cases hlt : k < xs.length
    · obtain ⟨b, off, rfl, hbl, hc1, hc2⟩ := hcell k hlt
      have hd1 := (hb.cell (p := ⟨b, off + k * 2, none⟩) hbl).trans hc1
      have hd2 := (hb.cell (p := ⟨b, off + k * 2 + 1, none⟩) hbl).trans hc2
      have hsrc := Rd.cellsFrom hx0
      have hcp : ∀ (W : World), Below w.heap.size w W → ∀ (j : Nat) (u : Value), (mcells (xs.take k))[j]? = some u → W.cell? ((⟨b, off, none⟩ : Addr).add j) = some u := fun W hW j u h => by
        rw [add_off]
        refine (hW.cell hbl).trans (hsrc j u ?_)
        rw [← mcells_take, List.getElem?_take] at h
        split at h
        · exact h
        · cases h
      have hcq : ∀ (W : World), Below w.heap.size w W → ∀ (j : Nat) (u : Value), (mcells (xs.drop (k + 1)))[j]? = some u → W.cell? ((⟨b, off + (k + 1) * 2, none⟩ : Addr).add j) = some u := fun W hW j u h => by
        rw [add_off, Nat.add_assoc]
        refine (hW.cell hbl).trans (hsrc _ u ?_)
        rw [← mcells_drop, List.getElem?_drop] at h
        exact h
      have hltk : (xs.take k).length = k := by rw [List.length_take]; omega
      have hldk : (xs.drop (k + 1)).length = xs.length - (k + 1) := by rw [List.length_drop]
      have hsum : (xs.take k).length + (xs.drop (k + 1)).length ≤ 1048576 := by omega
      have i0 : (0 : Int) ≤ (k : Int) := by omega
      have i1 : (k : Int) ≤ (xs.length : Int) := by omega
      have i2 : (k : Int) + 1 ≤ (xs.length : Int) := by omega
      have HER : Hid (xs.take k ++ xs.drop (k + 1) = xs.eraseIdx k) := by show _ = _; rw [List.eraseIdx_eq_take_drop_succ]
      have HFB : Hid (readB (xs.eraseIdx k) xs[k].1 = !freeB xs xs[k]) := by
        show _ = _
        have h1 := rdN_erase xs k hlt xs[k].1
        rw [if_neg (fun e => HNE.out _ (List.getElem_mem hlt) e.symm), Nat.add_zero] at h1
        unfold readB freeB
        rw [h1]
        by_cases e : rdN (xs.eraseIdx k) xs[k].1 = 0 <;> simp [e]
      have HKK := Lib.hid (fun h => HK.out k hlt h)
      have HNX : Hid (freeB xs xs[k] = false → ∀ j (hj : j < k + 1) (hj2 : j < xs.length), freeB xs xs[j] = false) := fun h j hj hj2 => by
        by_cases e : j = k
        · subst e; exact h
        · exact hm.out j (by omega) hj2
      have HCP := Lib.hid hcp
      have HCQ := Lib.hid hcq
      clear hc1 hc2 hcell hcp hcq hsrc
      generalize hfb : freeB xs xs[k] = fb at *
      clear hfb
      generalize xs[k].1 = x1 at *
      generalize xs[k].2 = x2 at *
      generalize xs.take k = p1 at *
      generalize xs.drop (k + 1) = p2 at *
      generalize xs.eraseIdx k = er at *
      have HB1 : Hid (Below w.heap.size w (wr.alloc (.cells #[.string x1, .string x2] 37))) := hb.alloc hbs _
      have n1 : k ≤ cap := by omega
      have n2 : k + 1 ≤ xs.length := by omega
      have n3 : k + 1 ≤ cap := by omega
      have n4 : IntKind.i64.wrap ((k : Int) + 1) = (k : Int) + 1 := IntWalk.i64_in _ ⟨by omega, by omega⟩
      have n5 : ((k : Int) + 1).toNat = k + 1 := by omega
      have n6 : (0 : Int) ≤ (k : Int) + 1 := by omega
      by_cases hcap : cap = k + 1
      · subst hcap
        have hp20 : p2.length = 0 := by omega
        have n7 : (k : Int) ≤ (k : Int) + 1 := by omega
        have HCZ : Hid (∀ (W : World) (j : Nat) (u : Value), (mcells p2)[j]? = some u → W.cell? ((⟨b, off, none⟩ : Addr).add j) = some u) := fun W j u h => by
          have : p2 = [] := List.length_eq_zero_iff.1 (by omega)
          rw [this] at h; simp [mcells] at h
        go_wp2
        go_region_law (first
          | (refine step_appM rfl (.tmp 13) (.tmp 16) rfl (wr.heap.size + 1) (.slice (some ⟨wr.heap.size + 1, 0, none⟩) 0 0) [] p1 ⟨b, off, none⟩ (k + 1) (by rfl) (by rw [hltk]; rfl) (own_lit1 _ _ _ _ (by simp) (by omega)) (HCP.out _ (by (repeat' (first | (with_reducible exact Below.refl _ _) | (with_reducible assumption) | (with_reducible refine Below.alloc ?_ ?_ _) | (with_reducible refine Below.drew ?_) | (with_reducible refine Below.setCell ?_ ?_ _) | (with_reducible exact Nat.le_refl _) | omega | ((repeat (first | rewrite [World.size_alloc] | rewrite [World.size_setCell] | rewrite [World.size_drew])); omega) | (simp; omega) | (simp; done))))) (by simp; omega) (by simp only [World.size_alloc, World.size_drew]; omega) ?_; intro v1 w1 ho1 hg1; have hb1 := Below.trans (show Below w.heap.size w ((wr.alloc (.cells #[.string x1, .string x2] 37)).alloc (.cells #[] 37)).drew by (repeat' (first | (with_reducible exact Below.refl _ _) | (with_reducible assumption) | (with_reducible refine Below.alloc ?_ ?_ _) | (with_reducible refine Below.drew ?_) | (with_reducible refine Below.setCell ?_ ?_ _) | (with_reducible exact Nat.le_refl _) | omega | ((repeat (first | rewrite [World.size_alloc] | rewrite [World.size_setCell] | rewrite [World.size_drew])); omega) | (simp; omega) | (simp; done)))) (below_grown hg1 (by simp; omega) (fun g e => by have e' : some (wr.heap.size + 1) = some g := e; cases e'; omega)))
          | (refine step_appM rfl (.tmp 17) (.tmp 21) rfl (wr.heap.size + 1) _ _ p2 ⟨b, off, none⟩ 0 (by rfl) (by rw [hp20]; rfl) ho1.out (HCZ.out _) (by simpa using hsum) (by have := hg1.size; simp at this; omega) ?_; intro v2 w2 ho2 hg2))
        have hz1 := hg1.size
        have hz2 := hg2.size
        simp only [World.size_alloc, World.size_drew] at hz1
        have hrd2 : RdM w2 v2 er := by
          have := Rd.of_own ho2.out
          rw [List.nil_append, HER.out] at this
          exact this
        have hge1 := own_block_ge ho1.out
        have hN0 : At ((wr.alloc (.cells #[.string x1, .string x2] 37)).alloc (.cells #[] 37)).drew wr.heap.size 37 #[.string x1, .string x2] := (At.new wr 37 #[.string x1, .string x2]).alloc _
        have hN1 : At w1 wr.heap.size 37 #[.string x1, .string x2] := hN0.grown hg1 (by intro e; have e' : some wr.heap.size = some (wr.heap.size + 1) := e; have := Option.some.inj e'; omega)
        have hN2 : At w2 wr.heap.size 37 #[.string x1, .string x2] := hN1.grown hg2 (fun e => by have := hge1 _ e.symm; omega)
        have q1 : w2.cell? ⟨wr.heap.size, 0, none⟩ = some (.string x1) := hN2.cell 0
        have hb2 : Below w.heap.size w w2 := hb1.trans (below_grown hg2 (by omega) (fun g e => by have := hge1 g e; omega))
        have hs2 := hb2.size
        clear hg1 hg2 hN0 hN1 hN2 ho1 ho2 hd1 hd2 hb1
        have HRR := Lib.hid (HRD.out er v2 x1 w2 hrd2)
        rw [HFB.out] at HRR
        clear hrd2
        cases fb with
        | true =>
          go_wp2_with (go_at_call 83; refine HRR.out.mono ?_; rintro e w3 ⟨rfl, hb3⟩)
          go_ret
          exact ⟨by rw [HKK.out (fun j hj => hm.out j hj (by omega)) (by first | trivial | rfl)]; rfl, hb2.trans (hb3.mono hs2)⟩
        | false =>
          go_wp2_with (go_at_call 83; refine HRR.out.mono ?_; rintro e w3 ⟨rfl, hb3⟩)
          go_roundw
          case rel => exact ⟨k + 1, by omega, by go_num, hb2.trans (hb3.mono hs2), HNX.out (by first | trivial | rfl)⟩
          case measure => simp [RowKit.intOf]; omega
      · go_wp2
        go_region_law (first
          | (refine step_appM rfl (.tmp 13) (.tmp 16) rfl (wr.heap.size + 1) (.slice (some ⟨wr.heap.size + 1, 0, none⟩) 0 0) [] p1 ⟨b, off, none⟩ cap (by rfl) (by rw [hltk]; rfl) (own_lit1 _ _ _ _ (by simp) (by omega)) (HCP.out _ (by (repeat' (first | (with_reducible exact Below.refl _ _) | (with_reducible assumption) | (with_reducible refine Below.alloc ?_ ?_ _) | (with_reducible refine Below.drew ?_) | (with_reducible refine Below.setCell ?_ ?_ _) | (with_reducible exact Nat.le_refl _) | omega | ((repeat (first | rewrite [World.size_alloc] | rewrite [World.size_setCell] | rewrite [World.size_drew])); omega) | (simp; omega) | (simp; done))))) (by simp; omega) (by simp only [World.size_alloc, World.size_drew]; omega) ?_; intro v1 w1 ho1 hg1; have hb1 := Below.trans (show Below w.heap.size w ((wr.alloc (.cells #[.string x1, .string x2] 37)).alloc (.cells #[] 37)).drew by (repeat' (first | (with_reducible exact Below.refl _ _) | (with_reducible assumption) | (with_reducible refine Below.alloc ?_ ?_ _) | (with_reducible refine Below.drew ?_) | (with_reducible refine Below.setCell ?_ ?_ _) | (with_reducible exact Nat.le_refl _) | omega | ((repeat (first | rewrite [World.size_alloc] | rewrite [World.size_setCell] | rewrite [World.size_drew])); omega) | (simp; omega) | (simp; done)))) (below_grown hg1 (by simp; omega) (fun g e => by have e' : some (wr.heap.size + 1) = some g := e; cases e'; omega)))
          | (refine step_appM rfl (.tmp 17) (.tmp 21) rfl (wr.heap.size + 1) _ _ p2 ⟨b, off + (k + 1) * 2, none⟩ (cap - (k + 1)) (by rfl) (by rw [hldk]; rfl) ho1.out (HCQ.out _ hb1) (by simpa using hsum) (by have := hg1.size; simp at this; omega) ?_; intro v2 w2 ho2 hg2))
        have hz1 := hg1.size
        have hz2 := hg2.size
        simp only [World.size_alloc, World.size_drew] at hz1
        have hrd2 : RdM w2 v2 er := by
          have := Rd.of_own ho2.out
          rw [List.nil_append, HER.out] at this
          exact this
        have hge1 := own_block_ge ho1.out
        have hN0 : At ((wr.alloc (.cells #[.string x1, .string x2] 37)).alloc (.cells #[] 37)).drew wr.heap.size 37 #[.string x1, .string x2] := (At.new wr 37 #[.string x1, .string x2]).alloc _
        have hN1 : At w1 wr.heap.size 37 #[.string x1, .string x2] := hN0.grown hg1 (by intro e; have e' : some wr.heap.size = some (wr.heap.size + 1) := e; have := Option.some.inj e'; omega)
        have hN2 : At w2 wr.heap.size 37 #[.string x1, .string x2] := hN1.grown hg2 (fun e => by have := hge1 _ e.symm; omega)
        have q1 : w2.cell? ⟨wr.heap.size, 0, none⟩ = some (.string x1) := hN2.cell 0
        have hb2 : Below w.heap.size w w2 := hb1.trans (below_grown hg2 (by omega) (fun g e => by have := hge1 g e; omega))
        have hs2 := hb2.size
        clear hg1 hg2 hN0 hN1 hN2 ho1 ho2 hd1 hd2 hb1
        have HRR := Lib.hid (HRD.out er v2 x1 w2 hrd2)
        rw [HFB.out] at HRR
        clear hrd2
        cases fb with
        | true =>
          go_wp2_with (go_at_call 83; refine HRR.out.mono ?_; rintro e w3 ⟨rfl, hb3⟩)
          go_ret
          exact ⟨by rw [HKK.out (fun j hj => hm.out j hj (by omega)) (by first | trivial | rfl)]; rfl, hb2.trans (hb3.mono hs2)⟩
        | false =>
          go_wp2_with (go_at_call 83; refine HRR.out.mono ?_; rintro e w3 ⟨rfl, hb3⟩)
          go_roundw
          case rel => exact ⟨k + 1, by omega, by go_num, hb2.trans (hb3.mono hs2), HNX.out (by first | trivial | rfl)⟩
          case measure => simp [RowKit.intOf]; omega
    · have hz := HZ.out fun j hj => hm.out j (by omega) hj
      have HZZ := Lib.hid hz
      clear hz
      go_wp2
      go_ret
      exact ⟨by rw [HZZ.out]; rfl, hb⟩
end Go.Proofs.YtplapaojgcloaaaGreatDoor
namespace Go.PM
open Go.RowKit
/-- the table with the sources of the first k places in it -/
def mix (f : Nat → ByteArray) (k : Nat) : Nat → ByteArray := fun q => if q < k then srcT f q else f q
theorem mix_zero (f : Nat → ByteArray) : mix f 0 = f := by funext q; simp [mix]
theorem mix_at (f : Nat → ByteArray) (k : Nat) : srcT (mix f k) k = srcT f k := by simp [srcT, mix]
theorem mix_set (f : Nat → ByteArray) (k : Nat) (hk : k < 9) : (tabA (mix f k)).setIfInBounds k (.string (srcT f k)) = tabA (mix f (k + 1)) := by
  have h := tabC_set (mix f k) k hk (srcT f k)
  have e : (fun q => if q = k then srcT f k else mix f k q) = mix f (k + 1) := by
    funext q
    by_cases hq : q = k
    · subst hq; simp [mix]
    · by_cases h2 : q < k
      · simp [mix, hq, h2, Nat.lt_succ_of_lt h2]
      · have : ¬ q < k + 1 := by omega
        simp [mix, hq, h2, this]
  rw [e] at h
  exact h
end Go.PM
namespace Go.Proofs.YtplapaojgcloaaaGreatDoor
open Go.RowKit Go.PM
attribute [local go_sem] Oper.semAt_some

end Go.Proofs.YtplapaojgcloaaaGreatDoor
namespace Go.PM
open Go.RowKit
def leafH (f : Nat → ByteArray) (p : Nat) : Bool := decide (srcT f p ≠ nm p) && decide (namesW (rdH f (nm p)) = emp)
def leafM (xs : List Mv) (m : Mv) : Bool := decide (namesW (rsH xs m.1) = emp)
def lvB (xs : List Mv) (ms : List Mv) : ByteArray := ⟨((ms.filter (leafM xs)).flatMap fun m => m.1.data.toList).toArray⟩
theorem lvB_yes (xs ms : List Mv) (m : Mv) (h : leafM xs m = true) : lvB xs (ms ++ [m]) = lvB xs ms ++ m.1 := by
  apply ByteArray.ext
  rw [ByteArray.data_append]
  simp [lvB, h]
theorem lvB_no (xs ms : List Mv) (m : Mv) (h : leafM xs m = false) : lvB xs (ms ++ [m]) = lvB xs ms := by
  simp [lvB, h]
def leavesB (xs : List Mv) : ByteArray := namesW (leafH (tabOf xs))
theorem lvB_all {xs : List Mv} (h : MV xs) : lvB xs (busyF xs 9) = leavesB xs := by
  unfold lvB leavesB namesW namesL busyF
  rw [List.filter_map, List.flatMap_map, List.filter_filter]
  have e1 : ((List.range 9).filter fun p => (leafM xs ∘ fun p => (nm p, srcM xs (nm p))) p && busyH xs p) = (List.range 9).filter (leafH (tabOf xs)) := by
    refine List.filter_congr fun p hp => ?_
    have hp9 : p < 9 := by simpa using hp
    show (leafM xs (nm p, srcM xs (nm p)) && busyH xs p) = leafH (tabOf xs) p
    unfold leafM leafH busyH
    rw [rsH_rdH h, srcM_nm h hp9, Bool.and_comm]
  rw [e1]
  have e2 : ∀ l : List Nat, (l.flatMap fun a => (nm a, srcM xs (nm a)).1.data.toList) = l.map (placesL.getD · 0) := by
    intro l
    induction l with
    | nil => rfl
    | cons a l ih => rw [List.flatMap_cons, ih]; rfl
  rw [e2]
theorem emp_iff (s : ByteArray) : s.toList.isEmpty = decide (s = emp) := by
  rw [ByteArray.toList_eq]
  by_cases h : s = emp
  · subst h; simp
  · cases hl : s.data.toList with
    | nil => exact absurd (Go.WideShapes.bytes_inj (by rw [hl])) h
    | cons a l => simp [h]
theorem busyF_one (xs : List Mv) (k : Nat) (hk : k < (busyF xs 9).length) : (busyF xs 9)[k].1.size = 1 := by
  have := List.getElem_mem hk
  unfold busyF at this
  obtain ⟨p, _, e⟩ := List.mem_map.1 this
  have : (busyF xs 9)[k].1 = nm p := by
    have : (busyF xs 9)[k] = (nm p, srcM xs (nm p)) := e.symm
    rw [this]
  rw [this]; rfl
end Go.PM
namespace Go.Proofs.YtplapaojgcloaaaGreatDoor
open Go.RowKit Go.PM

end Go.Proofs.YtplapaojgcloaaaGreatDoor
namespace Go.PM
open Go.RowKit
theorem namesW_emp {h : Nat → Bool} : namesW h = emp ↔ ∀ p, p < 9 → h p = false := by
  have e : namesW h = emp ↔ (List.range 9).filter h = [] := by
    constructor
    · intro e
      have := congrArg (fun s => s.data.toList.length) e
      simp only [namesW, namesL, List.length_map] at this
      exact List.length_eq_zero_iff.1 this
    · intro e
      rw [namesW, namesL, e]; rfl
  rw [e, List.filter_eq_nil_iff]
  constructor
  · intro g p hp; simpa using g p (by simpa using hp)
  · intro g p hp; simpa using g p (by simpa using hp)
theorem namesW_one {p0 : Nat} (h0 : p0 < 9) : namesW (fun p => decide (p = p0)) = nm p0 := by
  match p0, h0 with
  | 0, _ | 1, _ | 2, _ | 3, _ | 4, _ | 5, _ | 6, _ | 7, _ | 8, _ => decide +kernel
/-- each place is the source of one -/
def Exch (S : Nat → ByteArray) : Prop := ∀ q, q < 9 → ∃ p, p < 9 ∧ S p = nm q
theorem leaf_exch (f : Nat → ByteArray) : namesW (leafH f) = emp ↔ Exch (srcT f) := by
  rw [namesW_emp]
  constructor
  · intro h q hq
    have h1 := h q hq
    unfold leafH at h1
    by_cases h2 : srcT f q = nm q
    · exact ⟨q, hq, h2⟩
    · have h3 : ¬ namesW (rdH f (nm q)) = emp := by simpa [h2] using h1
      rw [namesW_emp] at h3
      obtain ⟨p, h4⟩ := Classical.not_forall.1 h3
      obtain ⟨hp, h5⟩ := Classical.not_imp.1 h4
      have h6 : rdH f (nm q) p = true := by simpa using h5
      unfold rdH at h6
      rw [Bool.and_eq_true] at h6
      exact ⟨p, hp, by simpa using h6.2⟩
  · intro h q hq
    obtain ⟨p, hp, e⟩ := h q hq
    unfold leafH
    by_cases h2 : srcT f q = nm q
    · simp [h2]
    · have hne : nm p ≠ nm q := fun e2 => by
        have := nm_inj hp hq e2
        subst this; exact h2 e
      have : namesW (rdH f (nm q)) ≠ emp := fun h3 => by
        have := namesW_emp.1 h3 p hp
        unfold rdH at this
        simp [hne, e] at this
      simp [this]
theorem Exch.congr {S T : Nat → ByteArray} (h : ∀ p, p < 9 → S p = T p) (e : Exch S) : Exch T := fun q hq => by
  obtain ⟨p, hp, e1⟩ := e q hq
  exact ⟨p, hp, (h p hp).symm.trans e1⟩
theorem exch_drop {S : Nat → ByteArray} {p' : Nat} (hp' : p' < 9) (h : ∀ q, q < 9 → ∃ p, p < 9 ∧ p ≠ p' ∧ S p = nm q) : False := by
  have n1 : ((List.range 9).map nm).Nodup := by decide +kernel
  have h1 := nodup_le ((List.range 9).map nm) (((List.range 9).erase p').map S) n1 (fun a ha => by
    obtain ⟨q, hq, rfl⟩ := List.mem_map.1 ha
    obtain ⟨p, hp, hne, e⟩ := h q (by simpa using hq)
    exact List.mem_map.2 ⟨p, (List.mem_erase_of_ne hne).2 (by simpa using hp), e⟩)
  have h2 := List.length_erase_of_mem (show p' ∈ List.range 9 by simpa using hp')
  simp only [List.length_map, List.length_range] at h1 h2
  omega
theorem Exch.inj {S : Nat → ByteArray} (h : Exch S) {p p' : Nat} (hp : p < 9) (hp' : p' < 9) (e : S p = S p') : p = p' := by
  rcases Nat.decEq p p' with hne | he
  · exfalso
    refine exch_drop (S := S) hp' fun q hq => ?_
    obtain ⟨r, hr, e1⟩ := h q hq
    by_cases h1 : r = p'
    · subst h1; exact ⟨p, hp, hne, e.trans e1⟩
    · exact ⟨r, hr, h1, e1⟩
  · exact he
theorem Exch.place {S : Nat → ByteArray} (h : Exch S) {p : Nat} (hp : p < 9) : isP (S p) = true := by
  rcases Bool.eq_false_or_eq_true (isP (S p)) with h1 | h1
  · exact h1
  · exfalso
    refine exch_drop (S := S) hp fun q hq => ?_
    obtain ⟨r, hr, e1⟩ := h q hq
    refine ⟨r, hr, fun e => ?_, e1⟩
    subst e
    rw [e1, isP_nm hq] at h1
    cases h1
/-- the place that has q as its source -/
def invI (S : Nat → ByteArray) (q : Nat) : Nat := ((List.range 9).find? fun p => decide (S p = nm q)).getD 0
def invF (S : Nat → ByteArray) (q : Nat) : ByteArray := nm (invI S q)
theorem Exch.inv {S : Nat → ByteArray} (h : Exch S) {q : Nat} (hq : q < 9) : invI S q < 9 ∧ S (invI S q) = nm q := by
  obtain ⟨p, hp, e⟩ := h q hq
  unfold invI
  cases hf : (List.range 9).find? (fun p => decide (S p = nm q)) with
  | none => exact absurd (List.find?_eq_none.1 hf p (by simpa using hp)) (by simp [e])
  | some r =>
    have h1 := List.find?_some hf
    have h2 := List.mem_of_find?_eq_some hf
    exact ⟨by simpa using h2, by simpa using h1⟩
theorem Exch.inv_iff {S : Nat → ByteArray} (h : Exch S) {q p : Nat} (hq : q < 9) (hp : p < 9) : S p = nm q ↔ p = invI S q := by
  have h1 := h.inv hq
  exact ⟨fun e => h.inj hp h1.1 (e.trans h1.2.symm), fun e => by rw [e]; exact h1.2⟩
theorem invI_congr {S T : Nat → ByteArray} (h : ∀ p, p < 9 → S p = T p) (q : Nat) : invI S q = invI T q := by
  have key : ∀ l : List Nat, (∀ p ∈ l, p < 9) → l.find? (fun p => decide (S p = nm q)) = l.find? (fun p => decide (T p = nm q)) := by
    intro l
    induction l with
    | nil => intro _; rfl
    | cons a l ih =>
      intro hl
      rw [List.find?_cons, List.find?_cons, h a (hl a (by simp)), ih (fun p hp => hl p (by simp [hp]))]
  unfold invI
  rw [key _ (fun p hp => by simpa using hp)]

/-- impl's table of what gives all back, of the first k places -/
def bkF (f : Nat → ByteArray) : Nat → Nat → ByteArray
  | 0 => fun _ => emp
  | k + 1 => upd (bkF f k) (pidx (srcT f k)) (nm k)
theorem bkF_at {f : Nat → ByteArray} (h : Exch (srcT f)) : ∀ k, k ≤ 9 → ∀ p, p < k → bkF f k (pidx (srcT f p)) = nm p := by
  intro k
  induction k with
  | zero => intro _ p hp; omega
  | succ k ih =>
    intro hk p hp
    show upd (bkF f k) (pidx (srcT f k)) (nm k) (pidx (srcT f p)) = nm p
    unfold upd
    by_cases e : pidx (srcT f p) = pidx (srcT f k)
    · rw [if_pos e]
      have h1 := pidx_spec (h.place (p := p) (by omega))
      have h2 := pidx_spec (h.place (p := k) (by omega))
      have : srcT f p = srcT f k := by rw [← h1.2, ← h2.2, e]
      rw [h.inj (by omega) (by omega) this]
    · rw [if_neg e]
      rcases Nat.lt_or_ge p k with h1 | h1
      · exact ih (by omega) p h1
      · have : p = k := by omega
        subst this; exact absurd rfl e
theorem bkF_inv {f : Nat → ByteArray} (h : Exch (srcT f)) {q : Nat} (hq : q < 9) : srcT (bkF f 9) q = invF (srcT f) q := by
  have h1 := h.inv hq
  have h2 := bkF_at h 9 (Nat.le_refl _) _ h1.1
  rw [h1.2, pidx_nm hq] at h2
  show (if bkF f 9 q = emp then nm q else bkF f 9 q) = _
  rw [h2, if_neg (nm_ne _)]; rfl
/-- spec's list of readers, of the first k places -/
def unH (xs : List Mv) (q : Nat) : Bool := decide (namesW (rsH xs (nm q)) ≠ emp)
def unL (xs : List Mv) (k : Nat) : List Mv := ((List.range k).filter (unH xs)).map fun q => (nm q, namesW (rsH xs (nm q)))
theorem unL_yes (xs : List Mv) (k : Nat) (h : unH xs k = true) : unL xs (k + 1) = unL xs k ++ [(nm k, namesW (rsH xs (nm k)))] := by
  simp [unL, List.range_succ, h]
theorem unL_no (xs : List Mv) (k : Nat) (h : unH xs k = false) : unL xs (k + 1) = unL xs k := by
  simp [unL, List.range_succ, h]
theorem unL_len (xs : List Mv) (k : Nat) : (unL xs k).length ≤ k := by
  unfold unL
  rw [List.length_map]
  have := List.length_filter_le (unH xs) (List.range k)
  simpa using this
theorem rs_inv {xs : List Mv} (h : Exch fun p => srcM xs (nm p)) {q : Nat} (hq : q < 9) :
    namesW (rsH xs (nm q)) = if invI (fun p => srcM xs (nm p)) q = q then emp else invF (fun p => srcM xs (nm p)) q := by
  have h1 := h.inv hq
  have e : ∀ p, p < 9 → rsH xs (nm q) p = (decide (p ≠ q) && decide (p = invI (fun p => srcM xs (nm p)) q)) := fun p hp => by
    unfold rsH
    congr 1
    · exact decide_eq_decide.2 ⟨fun hne e => hne (by rw [e]), fun hne e => hne (nm_inj hp hq e)⟩
    · exact decide_eq_decide.2 (h.inv_iff hq hp)
  rw [namesW_congr e]
  by_cases h2 : invI (fun p => srcM xs (nm p)) q = q
  · rw [if_pos h2, h2]
    refine namesW_emp.2 fun p _ => ?_
    by_cases h3 : p = q <;> simp [h3]
  · rw [if_neg h2]
    refine (namesW_congr (g := fun p => decide (p = invI (fun p => srcM xs (nm p)) q)) fun p _ => ?_).trans (namesW_one h1.1)
    by_cases h3 : p = invI (fun p => srcM xs (nm p)) q
    · rw [h3]; simp [h2]
    · simp [h3]
theorem unL_inv {xs : List Mv} (h : Exch fun p => srcM xs (nm p)) : unL xs 9 = lsF (invF fun p => srcM xs (nm p)) 9 := by
  have e : (List.range 9).filter (unH xs) = (List.range 9).filter (lsH (invF fun p => srcM xs (nm p))) := List.filter_congr fun q hq => by
    have hq : q < 9 := by simpa using hq
    unfold unH lsH
    rw [rs_inv h hq]
    by_cases h2 : invI (fun p => srcM xs (nm p)) q = q
    · rw [if_pos h2]; unfold invF; rw [h2]; simp
    · rw [if_neg h2]
      have h3 : invF (fun p => srcM xs (nm p)) q ≠ nm q := fun e => h2 (nm_inj (h.inv hq).1 hq e)
      have h4 : invF (fun p => srcM xs (nm p)) q ≠ emp := nm_ne _
      simp [h3, h4]
  unfold unL lsF
  rw [e]
  refine List.map_congr_left fun q hq => ?_
  obtain ⟨h1, h2⟩ := List.mem_filter.1 hq
  have hq : q < 9 := by simpa using h1
  unfold lsH at h2
  have h2 : invF (fun p => srcM xs (nm p)) q ≠ nm q := by simpa using h2
  rw [rs_inv h hq, if_neg]
  intro e
  exact h2 (by unfold invF; rw [e])
/-- what the functions answer -/
def exchB (xs : List Mv) : Bool := mvalid xs && decide (leavesB xs = emp)
theorem exchB_iff {xs : List Mv} : exchB xs = true ↔ MV xs ∧ Exch (srcT (tabOf xs)) := by
  unfold exchB leavesB
  rw [Bool.and_eq_true, decide_eq_true_eq, leaf_exch]
  simp [mvalid]
theorem exchB_M {xs : List Mv} (h : exchB xs = true) : Exch fun p => srcM xs (nm p) := by
  obtain ⟨h1, h2⟩ := exchB_iff.1 h
  exact h2.congr fun p hp => srcT_M h1 hp
def undoM (xs : List Mv) : List Mv := if exchB xs then lsF (invF fun p => srcM xs (nm p)) 9 else []
theorem undoM_tab {xs : List Mv} (h : exchB xs = true) : mvT (noIdle (bkF (tabOf xs) 9)) (List.range 9) = undoM xs := by
  obtain ⟨h1, h2⟩ := exchB_iff.1 h
  rw [undoM, if_pos h, mvT_idle]
  refine lsF_congr fun q hq => ?_
  rw [bkF_inv h2 hq, invF, invF, invI_congr (fun p hp => srcT_M h1 hp)]
def lostH (xs : List Mv) (p : Nat) : Bool := decide (srcM xs (nm p) ≠ nm p) && decide (namesW (rsH xs (nm p)) = emp)
theorem lost_leaf {xs : List Mv} (h : MV xs) : namesW (lostH xs) = leavesB xs := by
  refine namesW_congr fun p hp => ?_
  unfold lostH leafH
  rw [rsH_rdH h, srcM_nm h hp]
end Go.PM
namespace Go.PM
open Go.RowKit
/-- a table of which the first k places have turned -/
def mixG (h f : Nat → ByteArray) (k : Nat) : Nat → ByteArray := fun q => if q < k then h q else f q
theorem mixG_zero (h f : Nat → ByteArray) : mixG h f 0 = f := by funext q; simp [mixG]
theorem mixG_at (h f : Nat → ByteArray) (k : Nat) : mixG h f k k = f k := by simp [mixG]
theorem mixG_src (h f : Nat → ByteArray) (k : Nat) : srcT (mixG h f k) k = srcT f k := by simp [srcT, mixG]
theorem mixG_set (h f : Nat → ByteArray) (k : Nat) (hk : k < 9) : (tabA (mixG h f k)).setIfInBounds k (.string (h k)) = tabA (mixG h f (k + 1)) := by
  have h1 := tabC_set (mixG h f k) k hk (h k)
  have e : (fun q => if q = k then h k else mixG h f k q) = mixG h f (k + 1) := by
    funext q
    by_cases hq : q = k
    · subst hq; simp [mixG]
    · by_cases h2 : q < k
      · simp [mixG, hq, h2, Nat.lt_succ_of_lt h2]
      · have : ¬ q < k + 1 := by omega
        simp [mixG, hq, h2, this]
  rw [e] at h1
  exact h1
theorem mixG_same (h f : Nat → ByteArray) (k : Nat) (e : h k = f k) : mixG h f (k + 1) = mixG h f k := by
  funext q
  by_cases hq : q = k
  · subst hq; simp [mixG, e]
  · by_cases h2 : q < k
    · simp [mixG, h2, Nat.lt_succ_of_lt h2]
    · have : ¬ q < k + 1 := by omega
      simp [mixG, h2, this]
theorem tabC_all (f : Nat → ByteArray) : (tabC f).all (·.oneCell') = true := by simp [tabC, Value.oneCell']
theorem tabX_mixG (h f : Nat → ByteArray) : tabX (mixG h f 9) = tabX h := rfl
end Go.PM
namespace Go.Proofs.YtplapaojgcloaaaGreatDoor
open Go.RowKit Go.PM Go.Lib
attribute [local go_sem] Oper.semAt_some

end Go.Proofs.YtplapaojgcloaaaGreatDoor
namespace Go.Proofs.YtplapaojgcloaaaGreatDoor
open Go.RowKit Go.PM Go.Lib
attribute [local go_sem] Oper.semAt_some

set_option maxRecDepth 100000 in
set_option maxHeartbeats 4000000 in
theorem idle_c (f : Nat → ByteArray) (w : World) :
    Calls Tryz.prog 28 #[tabX f] w fun e w' => e = .returned (tabX (mixG (noIdle f) f 9)) ∧ Below w.heap.size w w' := by
  refine (callsIn_wide (n := 5)).1 ?_
  refine callsIn_of_wp_marks Tryz.func28 rfl trivial ?_ rfl
  simp only [Tryz.ntmps28, List.size_toArray, List.length_cons, List.length_nil, Nat.reduceAdd, Nat.reduceSub, Array.replicate_succ, Array.replicate_zero, List.push_toArray, List.append_toArray, List.nil_append, List.cons_append]
  gi_wp2
  refine range_law (F := Fence.wide) (gf := 58) (lf := #[.int .i64 9]) (lb := #[]) rfl (by decide) rfl trivial (fun args w => rfl) (encs := fun p : Nat => #[.int .i64 p]) (xs := List.range 9)
    (below_iter _ _ trivial rfl (by decide)) (fun _ => rfl)
    (fun pre W => At W w.heap.size 53 (tabA (mixG (noIdle f) f pre.length)) ∧ At W (w.heap.size + 1) 53 zA ∧ Below w.heap.size w W)
    (fun _ _ _ => False) ?_ (fun _ => ownFrom_pure _ _) ?_ (fun p => { tmps := #[tabX f, .pointer (some ⟨w.heap.size, 0, none⟩), .pointer (some ⟨w.heap.size + 1, 0, none⟩), .int .i64 p, .func (.func 58) #[.int .i64 9] #[], .int .i64 p, undef, undef, undef, undef, undef, undef, undef, undef, undef], defers := [] }) ?_ ?_ ?_ ?_
  · rintro s A A' row ⟨h1, h2, h3⟩ hg hr
    have hr' : ∀ r, row = some r → w.heap.size + 2 ≤ r := fun r e => by have := (hr r e).1; simp only [World.size_alloc] at this; omega
    refine ⟨(hg.block _ h1.lt (fun e => ?_)).trans h1, (hg.block _ h2.lt (fun e => ?_)).trans h2, h3.trans (below_grown hg h3.size (fun g e => ?_))⟩
    · have := hr' _ e.symm; omega
    · have := hr' _ e.symm; omega
    · have := hr' _ e; omega
  · refine ⟨?_, ?_, ?_⟩
    · rw [List.length_nil, mixG_zero]
      exact (At.new w _ _).alloc _
    · have := At.new (w.alloc (.cells (tabA f) 53)) 53 zA
      rwa [World.size_alloc] at this
    · exact ((Below.refl _ _).alloc (Nat.le_refl _) _).alloc (by simp [World.size_alloc]) _
  · intro l p W Kc hK
    gi_wp2
    exact hK
  · rintro l pre p W ⟨h1, h2, h3⟩ hp hsz
    obtain ⟨hl, hp9⟩ := pre_len pre p hp
    rw [hl] at h1
    have HL : Hid ((pre ++ [p]).length = p + 1) := by show _ = _; simp [hl]
    have HMS := Lib.hid (mixG_set (noIdle f) f p hp9)
    have HSM := Lib.hid (mixG_same (noIdle f) f p)
    have HNI : Hid (noIdle f p = if f p = nm p then emp else f p) := rfl
    clear hl
    have hpc : (tabA (mixG (noIdle f) f p))[p]? = some (.string (f p)) := by rw [← mixG_at (noIdle f) f p]; exact tabC_at _ p hp9
    have hnm := fun W' => name_c p hp9 W'
    generalize hgm : mixG (noIdle f) f p = g' at *
    have i0 : (0 : Int) ≤ (p : Int) := by omega
    have i1 : (p : Int) < 9 := by omega
    have kl := h1.lt
    have kf : W.drew.frozen? ⟨w.heap.size, p, none⟩ = false := h1.frozen p
    have kc : W.drew.cell? ⟨w.heap.size, p, none⟩ = some (.string (f p)) := (h1.cell p).trans hpc
    generalize nm p = q at *
    generalize f p = s at *
    rcases Bool.eq_false_or_eq_true (s.toList == q.toList) with hd | hd
    all_goals
      have hd' := hd
      rw [beq_str] at hd'
      have HD := Lib.hid hd'
      clear hd'
      gi_wp2
      refine region_quiet_inRound (F := Fence.wide) (C := fun w' => w' = W.drew) rfl (by kernel_rfl) (by kernel_rfl) (by kernel_rfl) rfl ?_
      simp only
      gi_big_quiet_step (fail)
      gi_big_quiet_step (fail)
      gi_big_quiet_step (fail)
      gi_big_quiet_step (fail)
      refine BigFrame.wpQuietIn_want (fun _ _ _ _ => trivial) rfl (fun K hK => ?_)
      gi_big_quiet_op
      refine ⟨_, callsIn_wide.2 ((hnm _).mono (fun e w' h => ⟨h.1, h.2.symm⟩)), hK _ ?_⟩
      clear hK K
      gi_big_quiet_step (fail)
      refine wpQuietIn_nil ?_
      intro w' hw'
      subst hw'
      gi_wp2
    · have hs : s = q := by have := HD.out; rwa [decide_eq_true_eq] at this
      refine ⟨(KeepsNew.drew W).from.trans ((KeepsOthers.setCell _ _ _).from _), KeepsIn.zero (by simp [World.size_setCell]), ?_, At.far (w := W.drew) h2 (by simp) _, Below.setCell (w := W.drew) h3.drew (by show w.heap.size ≤ w.heap.size; omega) _⟩
      rw [HL.out, ← HMS.out, HNI.out, if_pos hs]
      exact At.set (w := W.drew) h1 p _
    · have hs : ¬ s = q := by have := HD.out; rwa [decide_eq_false_iff_not] at this
      refine ⟨(KeepsNew.drew W).from, KeepsIn.zero (Nat.le_refl _), ?_, h2, h3.drew⟩
      rw [HL.out, HSM.out (by rw [HNI.out, if_neg hs])]
      exact h1
  · intro D W hD hI hd
    obtain ⟨h1, h2, h3⟩ := hI
    replace h1 : At W (w.heap.size) 53 (tabC (mixG (noIdle f) f 9)) := h1
    have hl1 := h1.lt
    have hl2 := h2.lt
    have hDD : w.heap.size + 2 ≤ D := by first | omega | simpa [World.size_alloc, Nat.add_assoc] using hD
    generalize hg9 : mixG (noIdle f) f 9 = g9 at *
    have HG9 := Lib.hid hg9
    clear hg9
    gi_wp2_with (first | (refine ldIn_row rfl 53 (.tmp 1) rfl (w.heap.size) 53 (tabC g9) h1 (by rfl) 9 9 Tryz.underlying53 (by kernel_rfl) ?_) | (refine stIn_row rfl 53 (.tmp 2) (.tmp 14) rfl rfl (w.heap.size + 1) 53 zA (tabC g9) h2 (by rfl) (by rfl) (by kernel_rfl) rfl (tabC_all _) ?_; intro W6 hA6 hg6))
    have d6 : W6.heap[D]? = some (.deferred (some [])) := (hg6.block D (Array.getElem?_eq_some_iff.1 hd).1 (by simp; omega)).trans hd
    have bel : Below w.heap.size w W6 := h3.trans (below_grown hg6 h3.size (fun g hg => by cases hg; omega))
    simp only [Act.put, List.setIfInBounds_toArray, List.set_cons_succ, List.set_cons_zero]
    have fin : LeavesInM Fence.wide 5 Tryz.prog Tryz.f28 #[tabX f, .pointer (some ⟨w.heap.size, 0, none⟩), .pointer (some ⟨w.heap.size + 1, 0, none⟩), undef, .func (.func 58) #[.int .i64 9] #[], undef, undef, undef, undef, undef, undef, undef, undef, undef, .agg (tabC g9)]
        (fun e w' => e = Ending.returned (tabX (mixG (noIdle f) f 9)) ∧ Below w.heap.size w w') [] .returning (W6.putObj D (.deferred none)) := by
      exact ⟨_, results_row1 Tryz.results28 _ _ (w.heap.size + 1) 53 (tabC g9) (by rfl) ((World.putObj_heap_other (by omega)).trans hA6) 9 9 Tryz.underlying53 (by kernel_rfl), by rw [HG9.out]; rfl, bel.trans ⟨rfl, rfl, rfl, by simp [World.putObj], fun k hk => World.putObj_heap_other (by omega)⟩⟩
    exact ⟨by simp, .inl ⟨D, _, rfl, run_takeDeferred d6, fin⟩⟩
  · intro _ _ _ _ _ _ hf
    exact hf.elim
end Go.Proofs.YtplapaojgcloaaaGreatDoor
namespace Go.PM
open Go.RowKit
def lenV : Value → Nat
  | .slice _ n _ => n
  | _ => 0
/-- the list that an iterator holds: the one that it began with, or a row of its own apart from the row r -/
def HeldW (B : Nat) (e : TypeId) (v : Value) (xs : List Mv) (r : Option Nat) (A : World) (wv : Value) (ws : List Mv) : Prop :=
  (wv = v ∧ ws = xs) ∨ (A.ownsRow B e 2 wv ws.length (mcells ws) ∧ ∀ g, wv.ownBlock = some g → r ≠ some g)
theorem grown_cell (W : World) (a : Addr) (v : Value) : W.grownBy (W.setCell a v) (some a.block) :=
  ⟨rfl, rfl, rfl, by simp [World.size_setCell], fun k _ hne => heap_setCell_other W a k v (fun e => hne (by rw [e]))⟩
theorem own_blk {w : World} {base : Nat} {e : TypeId} {size n g : Nat} {v : Value} {cs : List Value} (h : w.ownsRow base e size v n cs) (hg : v.ownBlock = some g) : g < w.heap.size ∧ base ≤ g := by
  refine ⟨?_, own_block_ge h g hg⟩
  rcases h.2 with ⟨rfl, _⟩ | ⟨g', cap, cur, rfl, _, hh, _⟩
  · cases hg
  · cases hg
    exact (Array.getElem?_eq_some_iff.1 hh).1
theorem HeldW.rd {B : Nat} {e : TypeId} {v : Value} {xs : List Mv} {r : Option Nat} {A : World} {wv : Value} {ws : List Mv} (h : HeldW B e v xs r A wv ws) (hx : RdM A v xs) : RdM A wv ws := by
  rcases h with ⟨rfl, rfl⟩ | ⟨h, _⟩
  · exact hx
  · exact Rd.of_own h
theorem HeldW.below {B : Nat} {e : TypeId} {v : Value} {xs : List Mv} {r : Option Nat} {A A' : World} {wv : Value} {ws : List Mv} (h : HeldW B e v xs r A wv ws) (hb : Below A.heap.size A A') : HeldW B e v xs r A' wv ws := by
  rcases h with h | ⟨h, h2⟩
  · exact .inl h
  · exact .inr ⟨own_keep h hb, h2⟩
theorem HeldW.step {B : Nat} {e : TypeId} {v : Value} {xs : List Mv} {r r' : Option Nat} {A A' : World} {wv : Value} {ws : List Mv} (h : HeldW B e v xs r A wv ws) (hs : RowStep B r r' A A') : HeldW B e v xs r' A' wv ws := by
  rcases h with h | ⟨h, h2⟩
  · exact .inl h
  · refine .inr ⟨⟨h.1, ?_⟩, fun g hg e => ?_⟩
    · rcases h.2 with h' | ⟨g, cap, cur, rfl, hbg, hh, hr⟩
      · exact .inl h'
      · have hlt := (Array.getElem?_eq_some_iff.1 hh).1
        exact .inr ⟨g, cap, cur, rfl, hbg, (hs.same g hbg hlt (fun e => h2 g rfl e.symm)).trans hh, hr⟩
    · have hb := own_blk h hg
      rcases hs.row with h3 | h3
      · exact h2 g hg (by rw [← h3]; exact e)
      · have := h3 g e; omega
theorem HeldW.new {B : Nat} {e : TypeId} {v : Value} {xs : List Mv} {r : Option Nat} {A A' : World} {wv : Value} {ws : List Mv} (h : A'.ownsRow A.heap.size e 2 wv ws.length (mcells ws)) (hB : B ≤ A.heap.size) (hr : ∀ g, r = some g → g < A.heap.size) : HeldW B e v xs r A' wv ws := by
  refine .inr ⟨own_more h hB, fun g hg e => ?_⟩
  have h1 := (own_blk h hg).2
  have := hr g e
  omega
end Go.PM
namespace Go.Proofs.YtplapaojgcloaaaGreatDoor
open Go.RowKit Go.PM

end Go.Proofs.YtplapaojgcloaaaGreatDoor
namespace Go.PM
open Go.RowKit
theorem leastK_ex {P : Nat → Prop} : ∀ n, P n → ∃ m, P m ∧ ∀ k, P k → m ≤ k := by
  intro n
  induction n using Nat.strongRecOn with
  | ind n ih =>
    intro h
    by_cases h2 : ∃ m, m < n ∧ P m
    · obtain ⟨m, h3, h4⟩ := h2; exact ih m h3 h4
    · exact ⟨n, h, fun k hk => Nat.le_of_not_lt fun hlt => h2 ⟨k, hlt, hk⟩⟩
open Classical in
/-- the least number of which P holds -/
noncomputable def leastK (P : Nat → Prop) : Nat := if h : ∃ m, P m ∧ ∀ k, P k → m ≤ k then Classical.choose h else 0
theorem leastK_spec {P : Nat → Prop} (h : ∃ n, P n) : P (leastK P) ∧ ∀ k, P k → leastK P ≤ k := by
  obtain ⟨n, hn⟩ := h
  have hx := leastK_ex n hn
  unfold leastK
  rw [dif_pos hx]
  exact Classical.choose_spec hx
/-- what the ordering holds at the head of a round: k steps are enough for what waits -/
def OrdR (B : Nat) (e : TypeId) (v : Value) (xs : List Mv) (J : Option Nat → List Mv → World → Prop) (k : Nat) (wv : Value) (A : World) : Prop :=
  ∃ (pre ws : List Mv) (r : Option Nat), pre ++ ordF k ws = ordF 19 xs ∧ Wt ws ∧ muW ws ≤ k ∧ ws.length ≤ 9 ∧ J r pre A ∧ HeldW B e v xs r A wv ws ∧ B ≤ A.heap.size
end Go.PM
namespace Go.Proofs.YtplapaojgcloaaaGreatDoor
open Go.RowKit Go.PM

set_option maxRecDepth 100000 in
set_option maxHeartbeats 3200000 in
theorem order_iter (xs : List Mv) (v : Value) (b1 n : Nat) (hn : 1 ≤ n) (hW : Wt xs) (hl : xs.length ≤ 9) :
    IterR (fun A => At A b1 23 #[v] ∧ RdM A v xs) Fence.wide n Tryz.prog 79 (fun y => #[] ++ #[y] ++ #[.pointer (some ⟨b1, 0, none⟩)]) (fun m : Mv => #[.agg #[.int .i64 0, .string m.1, .string m.2]]) (ordF 19 xs) := by
  intro l J r0 W hJ hP hY h0
  obtain ⟨⟨hA1, hx0⟩, hr0⟩ := hP _ _ _ h0
  have c1 : W.cell? ⟨b1, 0, none⟩ = some v := hA1.cell 0
  have HF := Lib.hid (fun ws wv A hx hl hp => firstAhead_c ws wv A hx (by omega : ws.length ≤ 1048576) hp)
  have HWO := Lib.hid (fun ws wv i hi A hx hl => without_c ws wv i hi A hx (by omega : ws.length ≤ 1048576))
  have HRE := Lib.hid (fun ws wv d A hx hl => redirected_c ws wv d A hx (by omega : ws.length ≤ 1048576))
  refine callsIn_of_wp Tryz.func79 rfl trivial ?_ rfl
  simp only [Tryz.ntmps79, List.size_toArray, List.length_cons, List.length_nil, Nat.reduceAdd, Nat.reduceSub, Array.replicate_succ, Array.replicate_zero, List.push_toArray, List.append_toArray, List.nil_append, List.cons_append]
  gi_wp2
  gi_loopw [3, 4, 5, 6] (fun wv _ _ _ wr => ∃ k, OrdR W.heap.size 37 v xs J k wv wr) (fun wv _ _ _ wr => leastK (fun k => OrdR W.heap.size 37 v xs J k wv wr))
  case atStart =>
    have : muW xs ≤ 19 := by unfold muW; split <;> omega
    exact ⟨19, [], xs, r0, rfl, hW, this, hl, h0, .inl ⟨rfl, rfl⟩, Nat.le_refl _⟩
  case round =>
    obtain ⟨hru, _⟩ := leastK_spec hrel
    generalize hkk : leastK (fun k => OrdR W.heap.size 37 v xs J k u3 wr) = kk at *
    have HKK := Lib.hid hkk
    clear hrel hkk
    obtain ⟨pre, ws, r, hpr, hwt, hmu, h9, hj, hh, hsz⟩ := hru
    obtain ⟨⟨_, hxr⟩, hrr⟩ := hP _ _ _ hj
    have hrd := hh.rd hxr
    obtain ⟨A, cap, rfl, hn1, hc1, hcell⟩ := hrd.open
    by_cases h0 : 0 < ws.length
    · obtain ⟨k, rfl⟩ : ∃ k', kk = k' + 1 := ⟨kk - 1, by unfold muW at hmu; omega⟩
      obtain ⟨b, off, rfl, hbl, d1', d2'⟩ := hcell 0 h0
      have hcs : ∀ q (hq : q < ws.length), wr.cell? ⟨b, off + q * 2, none⟩ = some (.string ws[q].1) ∧ wr.cell? ⟨b, off + q * 2 + 1, none⟩ = some (.string ws[q].2) := fun q hq => by
        obtain ⟨b', off', e, _, q1, q2⟩ := hcell q hq
        cases e; exact ⟨q1, q2⟩
      have d1 : wr.cell? ⟨b, off, none⟩ = some (.string ws[0].1) := by simpa using d1'
      have i00 : (0 : Int) < (ws.length : Int) := by omega
      clear d1' d2' hcell
      have hbw : Below wr.heap.size wr (wr.alloc (.cells #[.string spT, .string ws[0].1] 37)) := (Below.refl _ _).alloc (Nat.le_refl _) _
      have hfa := HF.out ws _ _ (hrd.below hbw) (by omega) hwt.to_
      have hNw : At (wr.alloc (.cells #[.string spT, .string ws[0].1] 37)) wr.heap.size 37 #[.string spT, .string ws[0].1] := At.new _ _ _
      have HSP : Hid (spT = ⟨#[116]⟩) := rfl
      rcases aheadZ_lt ws with hz | ⟨i, hi, hz, ha⟩
      · have ha := aheadI_of_neg hz
        have hof := ordF_none (n := k) h0 ha
        have hpx : pre ++ [(spT, ws[0].1)] <+: ordF 19 xs := by
          rw [← hpr, hof]; exact ⟨ordF k (redM (spT, ws[0].1) ws), by simp⟩
        have hnx : Hid ((pre ++ [(spT, ws[0].1)]) ++ ordF k (redM (spT, ws[0].1) ws) = ordF 19 xs ∧ Wt (redM (spT, ws[0].1) ws) ∧ muW (redM (spT, ws[0].1) ws) ≤ k ∧ (redM (spT, ws[0].1) ws).length ≤ 9) :=
          ⟨by rw [← hpr, hof]; simp, (hwt.none_ h0 ha).1, by have := muW_none hwt h0 ha; omega, by rw [redM_len]; exact h9⟩
        rw [hz] at hfa
        clear hz hof hpr ha hcs
        generalize ws[0].1 = x1 at *
        generalize spT = sp at *
        have hsp := HSP.out
        subst hsp
        gi_wp2_with fail
        refine ⟨trivial, callsIn_wide.2 (hfa.mono ?_)⟩
        rintro e W2 ⟨rfl, hb2⟩
        have hbw2 := hbw.trans (hb2.mono (by simp))
        have hJ2 : J r pre W2 := hJ _ _ _ _ none hj (grown_below hbw2 none) (fun r e => by cases e)
        have hh2 := hh.below hbw2
        have hN2 := hNw.keep hb2
        have hs2 := Nat.le_trans hsz hbw2.size
        clear hb2 hbw hNw hj hh hrd hxr d1 hbl hfa
        -- the step is handed out; what is left is redirected
        have hyl := hY r pre ((⟨#[116]⟩ : ByteArray), x1) W2 hJ2 hs2 hpx
        obtain ⟨fn, tmps, assign, body, hy, hR⟩ := hyl
        have n1 : W2.cell? ⟨wr.heap.size, 0, none⟩ = some (.string (⟨#[116]⟩ : ByteArray)) := hN2.cell 0
        have n2 : W2.cell? ⟨wr.heap.size, 1, none⟩ = some (.string x1) := hN2.cell 1
        gi_wp2
        refine hR.mono ?_
        rintro e W3 ⟨rfl, r', hJ3, hst⟩
        have hh3 := hh2.step hst
        have hs3 := Nat.le_trans hs2 hst.size
        obtain ⟨⟨_, hx3⟩, hr3⟩ := hP _ _ _ hJ3
        have hrd3 := hh3.rd hx3
        have hN3 : At W3 wr.heap.size 37 #[.string (⟨#[116]⟩ : ByteArray), .string x1] := (hst.same _ hsz hN2.lt (fun e => by have := hrr _ e.symm; omega)).trans hN2
        have m1 : W3.cell? ⟨wr.heap.size, 0, none⟩ = some (.string (⟨#[116]⟩ : ByteArray)) := hN3.cell 0
        have m2 : W3.cell? ⟨wr.heap.size, 1, none⟩ = some (.string x1) := hN3.cell 1
        clear n1 n2 hN2 hh2 hJ2 hst hR hy
        gi_wp2_with fail
        refine ⟨trivial, callsIn_wide.2 ((HRE.out _ _ ((⟨#[116]⟩ : ByteArray), x1) W3 hrd3 (by omega)).mono ?_)⟩
        rintro e W4 ⟨v4, rfl, ho4, hb4⟩
        have hh4 : HeldW W.heap.size 37 v xs r' W4 v4 _ := HeldW.new ho4 hs3 hr3
        have hJ4 : J r' (pre ++ [((⟨#[116]⟩ : ByteArray), x1)]) W4 := hJ _ _ _ _ none hJ3 (grown_below hb4 none) (fun r e => by cases e)
        have hs4 := Nat.le_trans hs3 hb4.size
        have hOR : OrdR W.heap.size 37 v xs J k v4 W4 := ⟨_, _, r', hnx.out.1, hnx.out.2.1, hnx.out.2.2.1, hnx.out.2.2.2, hJ4, hh4, hs4⟩
        clear hN3 m1 m2 hrd3 hx3 hr3 hh3 hJ3 hh4 hJ4 ho4 hb4
        gi_wp2
        go_roundw
        case rel => exact ⟨k, hOR⟩
        case measure =>
          rw [HKK.out]
          have := (leastK_spec (P := fun k => OrdR W.heap.size 37 v xs J k v4 W4) ⟨k, hOR⟩).2 _ hOR
          omega
      · have hof := ordF_some (n := k) hi ha
        have hpx : pre ++ [ws[i]] <+: ordF 19 xs := by
          rw [← hpr, hof]; exact ⟨ordF k (redM ws[i] (ws.eraseIdx i)), by simp⟩
        have hnx : Hid ((pre ++ [ws[i]]) ++ ordF k (redM ws[i] (ws.eraseIdx i)) = ordF 19 xs ∧ Wt (redM ws[i] (ws.eraseIdx i)) ∧ muW (redM ws[i] (ws.eraseIdx i)) ≤ k ∧ (redM ws[i] (ws.eraseIdx i)).length ≤ 9) :=
          ⟨by rw [← hpr, hof]; simp, hwt.some_ hi (aheadI_some ha).2, by have := muW_some hi ws[i]; omega, by rw [redM_len, List.length_eraseIdx_of_lt hi]; omega⟩
        have hlen2 : (ws.eraseIdx i).length ≤ 9 := by rw [List.length_eraseIdx_of_lt hi]; omega
        rw [hz] at hfa
        have hci := hcs i hi
        have i0 : (0 : Int) ≤ (i : Int) := by omega
        have i1 : (i : Int) < (ws.length : Int) := by omega
        have HWW := Lib.hid (fun A hx hl => HWO.out ws (.slice (some ⟨b, off, none⟩) ws.length cap) i hi A hx hl)
        clear hz hof hpr ha hcs
        generalize ws.eraseIdx i = ws2 at *
        rw [show ws[i] = (ws[i].1, ws[i].2) from rfl] at hpx hnx
        generalize ws[0].1 = x0 at *
        generalize ws[i].1 = y1 at *
        generalize ws[i].2 = y2 at *
        generalize spT = sp at *
        have hsp := HSP.out
        subst hsp
        gi_wp2_with fail
        refine ⟨trivial, callsIn_wide.2 (hfa.mono ?_)⟩
        rintro e W2 ⟨rfl, hb2⟩
        have hbw2 := hbw.trans (hb2.mono (by simp))
        have hN2 := hNw.keep hb2
        have hs2 := Nat.le_trans hsz hbw2.size
        have e1 := (hbw2.cell (p := ⟨b, off + i * 2, none⟩) hbl).trans hci.1
        have e2 := (hbw2.cell (p := ⟨b, off + i * 2 + 1, none⟩) hbl).trans hci.2
        have hrd2 := hrd.below hbw2
        clear hb2 hbw hNw d1 hfa hci
        gi_wp2
        have i0' : (0 : Int) ≤ (i : Int) := i0
        have hc4 := HWW.out W2.drew hrd2 (by omega)
        have HC4 := Lib.hid hc4
        clear hc4
        have e1d : W2.drew.cell? ⟨b, off + i * 2, none⟩ = some (.string y1) := e1
        have e2d : W2.drew.cell? ⟨b, off + i * 2 + 1, none⟩ = some (.string y2) := e2
        have hblw : b < W2.heap.size := Nat.lt_of_lt_of_le hbl hbw2.size
        gi_region_with (refine ⟨trivial, (callsIn_wide.2 HC4.out).mono ?_⟩; rintro e W5 ⟨v5, rfl, ho5, hb5⟩; have e1e := (hb5.cell (p := ⟨b, off + i * 2, none⟩) hblw).trans e1d; have e2e := (hb5.cell (p := ⟨b, off + i * 2 + 1, none⟩) hblw).trans e2d; have hN5 : At _ wr.heap.size 37 #[.string ⟨#[116]⟩, .string x0] := At.keep (w := W2.drew) hN2 hb5; have n1e := hN5.cell 0; have n2e := hN5.cell 1; have z1e := hN5.frozen 0; have z2e := hN5.frozen 1; simp only [List.getElem?_toArray, List.getElem?_cons_zero, List.getElem?_cons_succ] at n1e n2e)
        all_goals
          have hge5 := own_block_ge ho5
          have hs5 := hb5.size
          have hdz : W2.drew.heap.size = W2.heap.size := rfl
          have hlw : wr.heap.size < W2.heap.size := hN2.lt
          obtain ⟨W6, hW6⟩ : ∃ W6, W6 = (W5.setCell ⟨wr.heap.size, 0, none⟩ (.string y1)).setCell ⟨wr.heap.size, 1, none⟩ (.string y2) := ⟨_, rfl⟩
          have hN6 : At W6 wr.heap.size 37 #[.string y1, .string y2] := by
            rw [hW6]; have := (hN5.set 0 (.string y1)).set 1 (.string y2); simpa using this
          have hbw5 : Below wr.heap.size wr W5 := hbw2.drew.trans (hb5.mono (by omega))
          have hbw6 : Below wr.heap.size wr W6 := by rw [hW6]; exact (hbw5.setCell (by simp) _).setCell (by simp) _
          have hJ6 : J r pre W6 := hJ _ _ _ _ none hj (grown_below hbw6 none) (fun r e => by cases e)
          have hs6 := Nat.le_trans hsz hbw6.size
          have hown6 : W6.ownsRow W2.heap.size 37 2 v5 ws2.length (mcells ws2) := by
            have hne : v5.ownBlock ≠ some wr.heap.size := fun e => by have := hge5 _ e; omega
            rw [hW6]
            exact own_grown (own_grown ho5 (grown_cell W5 ⟨wr.heap.size, 0, none⟩ _) (.inl hne)) (grown_cell _ ⟨wr.heap.size, 1, none⟩ _) (.inl hne)
          have hh6 : HeldW W.heap.size 37 v xs r W6 v5 ws2 := HeldW.new hown6 hs2 (fun g e => by have := hrr g e; omega)
          rw [← hW6]
          clear hge5 hN5 n1e n2e z1e z2e e1e e2e e1d e2d e1 e2 hown6 hbw5 hbw6 hb5 ho5 HC4 HWW hrd2 hN2 hW6 hj hh hrd hxr
          -- the step is handed out; what is left is redirected
          have hyl := hY r pre (y1, y2) W6 hJ6 hs6 hpx
          obtain ⟨fn, tmps, assign, body, hy, hR⟩ := hyl
          have n1 : W6.cell? ⟨wr.heap.size, 0, none⟩ = some (.string y1) := hN6.cell 0
          have n2 : W6.cell? ⟨wr.heap.size, 1, none⟩ = some (.string y2) := hN6.cell 1
          gi_wp2
          refine hR.mono ?_
          rintro e W3 ⟨rfl, r', hJ3, hst⟩
          have hh3 := hh6.step hst
          have hs3 := Nat.le_trans hs6 hst.size
          obtain ⟨⟨_, hx3⟩, hr3⟩ := hP _ _ _ hJ3
          have hrd3 := hh3.rd hx3
          have hN3 : At W3 wr.heap.size 37 #[.string y1, .string y2] := (hst.same _ hsz hN6.lt (fun e => by have := hrr _ e.symm; omega)).trans hN6
          have m1 : W3.cell? ⟨wr.heap.size, 0, none⟩ = some (.string y1) := hN3.cell 0
          have m2 : W3.cell? ⟨wr.heap.size, 1, none⟩ = some (.string y2) := hN3.cell 1
          clear n1 n2 hN6 hh6 hJ6 hst hR hy
          gi_wp2_with fail
          refine ⟨trivial, callsIn_wide.2 ((HRE.out _ _ (y1, y2) W3 hrd3 (by omega)).mono ?_)⟩
          rintro e W4 ⟨v4, rfl, ho4, hb4⟩
          have hh4 : HeldW W.heap.size 37 v xs r' W4 v4 _ := HeldW.new ho4 hs3 hr3
          have hJ4 : J r' (pre ++ [(y1, y2)]) W4 := hJ _ _ _ _ none hJ3 (grown_below hb4 none) (fun r e => by cases e)
          have hs4 := Nat.le_trans hs3 hb4.size
          have hOR : OrdR W.heap.size 37 v xs J k v4 W4 := ⟨_, _, r', hnx.out.1, hnx.out.2.1, hnx.out.2.2.1, hnx.out.2.2.2, hJ4, hh4, hs4⟩
          clear hN3 m1 m2 hrd3 hx3 hr3 hh3 hJ3 hh4 hJ4 ho4 hb4
          gi_wp2
          go_roundw
          case rel => exact ⟨k, hOR⟩
          case measure =>
            rw [HKK.out]
            have := (leastK_spec (P := fun k => OrdR W.heap.size 37 v xs J k v4 W4) ⟨k, hOR⟩).2 _ hOR
            omega
    · have : ws = [] := List.length_eq_zero_iff.1 (by omega)
      subst this
      have hdone : J r (ordF 19 xs) wr := by
        rw [ordF_nil, List.append_nil] at hpr
        rw [← hpr]; exact hj
      gi_wp2
      go_end0
      exact ⟨⟨_, rfl⟩, r, hdone⟩
end Go.Proofs.YtplapaojgcloaaaGreatDoor
namespace Go.PM
open Go.RowKit
/-- the moves without idle ones, in the order of their places; none where they are not valid -/
def bioM (xs : List Mv) : List Mv := if mvalid xs then busyF xs 9 else []
theorem bioM_yes {xs : List Mv} (h : MV xs) : bioM xs = busyF xs 9 := if_pos (by simpa [mvalid] using h)
theorem bioM_no {xs : List Mv} (h : ¬ MV xs) : bioM xs = [] := if_neg (by simpa [mvalid] using h)
theorem bioM_len (xs : List Mv) : (bioM xs).length ≤ 9 := by
  unfold bioM; split
  · exact busyF_len xs 9
  · simp
theorem Wt_nil : Wt [] := ⟨by simp, by simp, by simp, by simp, by simp [rdN]⟩
theorem bioM_Wt (xs : List Mv) : Wt (bioM xs) := by
  by_cases h : MV xs
  · rw [bioM_yes h]; exact busyF_Wt h
  · rw [bioM_no h]; exact Wt_nil
theorem bioM_tab {xs : List Mv} (h : MV xs) : mvT (noIdle (tabOf xs)) (List.range 9) = bioM xs := by
  rw [mvT_idle, bioM_yes h]
  exact lsF_congr fun p hp => srcT_M h hp
theorem bioM_zero {xs : List Mv} (h : ¬ MV xs) : mvT (noIdle (fun _ => emp)) (List.range 9) = bioM xs := by
  rw [mvT_idle, bioM_no h, ← lsF_nm]
  exact lsF_congr fun p _ => srcT_zero p
theorem ordM_bio (xs : List Mv) : ordM xs = ordF 19 (bioM xs) := by
  by_cases h : MV xs
  · rw [bioM_yes h]; unfold ordM; rw [if_pos (by simpa [mvalid] using h)]
  · rw [bioM_no h, ordF_nil]; unfold ordM; rw [if_neg (by simpa [mvalid] using h)]
theorem stL_len (ms : List Mv) : (stL ms).length = ms.length := by simp [stL]
theorem ordM_len (xs : List Mv) : (ordM xs).length ≤ 19 := by
  unfold ordM; split
  · exact ordF_len _ _
  · simp
theorem wspM_len (xs : List Mv) : (wspM xs).length ≤ 9 := by
  unfold wspM; split
  · have h1 := takF_len 9 (busyF xs 9)
    have h2 := busyF_len xs 9
    unfold takM; omega
  · simp
theorem takF_nil (n : Nat) : takF n [] = [] := takF_none rfl
end Go.PM
namespace Go.Proofs.YtplapaojgcloaaaGreatDoor
open Go.RowKit Go.PM
attribute [local go_sem] Oper.semAt_some

set_option maxRecDepth 100000 in
set_option maxHeartbeats 1600000 in
theorem busyInOrder_c (xs : List Mv) (v : Value) (w : World) (hx : RdM w v xs) :
    Calls Tryz.prog 49 #[v] w fun e w' => ∃ v', e = .returned (.tuple #[v', .bool (mvalid xs)]) ∧ w'.ownsRow w.heap.size 37 2 v' (bioM xs).length (mcells (bioM xs)) ∧ Below w.heap.size w w' := by
  obtain ⟨f, hf, hm⟩ : ∃ f, (Calls Tryz.prog 56 #[v] w fun e w' => e = .returned (.tuple #[tabX f, .bool (mvalid xs)]) ∧ Below w.heap.size w w') ∧ mvT (noIdle f) (List.range 9) = bioM xs := by
    by_cases h : MV xs
    · have := tableOf_yes xs h v w hx
      exact ⟨tabOf xs, by rw [show mvalid xs = true by simpa [mvalid] using h]; exact this, bioM_tab h⟩
    · have := tableOf_no xs h v w hx
      exact ⟨fun _ => emp, by rw [show mvalid xs = false by simpa [mvalid] using h]; exact this, bioM_zero h⟩
  have HX := Lib.hid hf
  have HLI := Lib.hid (fun W => list_c (noIdle f) W)
  rw [hm] at HLI
  clear hf hx hm
  go_enter Tryz.func49, Tryz.ntmps49
  go_wp2_with fail
  refine HX.out.mono ?_
  rintro e w1 ⟨rfl, hb1⟩
  have hs1 := hb1.size
  have k1 : At (w1.alloc (.cells (tabA f) 53)) w1.heap.size 53 (tabA f) := At.new w1 _ _
  have hB1 := hb1.alloc hs1 (.cells (tabA f) 53)
  have hs2 := hB1.size
  clear hb1
  go_wp2_with (refine ld_row rfl 53 (.tmp 4) rfl w1.heap.size 53 (tabC f) k1 (by rfl) 9 9 Tryz.underlying53 (by kernel_rfl) ?_; refine held ?_)
  unfold Held
  go_wp2_with (go_at_call 28; refine (idle_c f _).mono ?_; rintro e w5 ⟨rfl, hb5⟩; refine held ?_)
  unfold Held
  have hB5 := hB1.trans (hb5.mono hs2)
  have hs5 := hB5.size
  clear hb5 hB1
  go_wp2_with (go_at_call 29; refine (HLI.out _).mono ?_; rintro e w6 ⟨v', rfl, ho, hb6⟩; refine held ?_)
  unfold Held
  have hB6 := hB5.trans (hb6.mono hs5)
  have ho6 := own_more ho hs5
  clear hb6 hB5 ho
  go_wp2
  go_ret2
  exact ⟨_, rfl, ho6, hB6⟩
theorem orderedSteps_c (A : Option Addr) (n c : Nat) (w : World) :
    Calls Tryz.prog 51 #[.slice A n c] w fun e w' => e = .returned (.func (.func 79) #[] #[.pointer (some ⟨w.heap.size, 0, none⟩)]) ∧ w.alloc (.cells #[.slice A n c] 23) = w' := by
  go_enter Tryz.func51, Tryz.ntmps51
  go_wp2
  go_ret
  exact ⟨rfl, rfl⟩
set_option maxRecDepth 100000 in
set_option maxHeartbeats 1600000 in
theorem imOrderMoves_c (xs : List Mv) (v : Value) (w : World) (hx : RdM w v xs) :
    Calls Tryz.prog 22 #[v] w fun e w' => ∃ v', e = .returned (.tuple #[v', .bool (mvalid xs)]) ∧ w'.ownsRow w.heap.size 51 3 v' (ordM xs).length (scells (stL (ordM xs))) ∧ Below w.heap.size w w' := by
  have HB := Lib.hid (busyInOrder_c xs v w hx)
  have hwt := bioM_Wt xs
  have hln := bioM_len xs
  have HOB := Lib.hid (ordM_bio xs)
  rcases Bool.eq_false_or_eq_true (mvalid xs) with h1 | h1
  · have h1' := Lib.hid h1
    go_enter Tryz.func22, Tryz.ntmps22
    go_wp2_with fail
    refine HB.out.mono ?_
    rintro e w1 ⟨v1, he, ho1, hb1⟩
    rw [h1] at he
    subst he
    have hs1 := hb1.size
    have hbx : Below w1.heap.size w1 (w1.alloc (.cells #[v1] 23)) := (Below.refl _ _).alloc (Nat.le_refl _) _
    have hB1 := hb1.trans (hbx.mono hs1)
    have hrd : RdM (w1.alloc (.cells #[v1] 23)) v1 (bioM xs) := (Rd.of_own ho1).below hbx
    have hA : At (w1.alloc (.cells #[v1] 23)) w1.heap.size 23 #[v1] := At.new _ _ _
    have HC := Lib.hid (fun W hP => collectS_c (Pr := fun A => At A w1.heap.size 23 #[v1] ∧ RdM A v1 (bioM xs)) 79 #[] #[.pointer (some ⟨w1.heap.size, 0, none⟩)] (fun _ _ => rfl) (ordF 19 (bioM xs)) (order_iter (bioM xs) v1 w1.heap.size 4 (by omega) hwt hln) W hP (by have := ordF_len 19 (bioM xs); omega))
    obtain ⟨A1, c1, rfl, _⟩ := Rd.of_own ho1
    clear hb1 ho1 hwt hln h1
    generalize hbi : bioM xs = bi at *
    clear hbi
    go_wp2_with (go_at_call 51; refine (orderedSteps_c _ _ _ _).mono ?_; rintro e wq ⟨rfl, rfl⟩; refine held ?_)
    unfold Held
    go_wp2_with (go_at_call 50; refine (HC.out _ (fun A hAb => ⟨hA.keep hAb, hrd.below hAb⟩)).mono ?_; rintro e w2 ⟨v2, rfl, ho2, hb2⟩; refine held ?_)
    unfold Held
    have hB2 := hB1.trans (hb2.mono hB1.size)
    have ho3 := own_more ho2 hB1.size
    rw [← HOB.out] at ho3
    clear ho2 hb2 hB1 hrd hA
    go_wp2
    go_ret2
    exact ⟨_, by rw [h1'.out]; rfl, ho3, hB2⟩
  · have hno : ordM xs = [] := by unfold ordM; rw [if_neg (by rw [h1]; decide)]
    have HNO := Lib.hid hno
    clear hno
    go_enter Tryz.func22, Tryz.ntmps22
    go_wp2_with fail
    refine HB.out.mono ?_
    rintro e w1 ⟨v1, he, ho1, hb1⟩
    rw [h1] at he
    subst he
    go_wp2
    go_ret2
    exact ⟨_, by rw [h1]; rfl, by rw [HNO.out]; exact ⟨rfl, .inl ⟨rfl, rfl⟩⟩, hb1⟩
theorem imOrderMovesL_c (xs : List Mv) (v : Value) (w : World) (hx : RdM w v xs) :
    Calls Tryz.prog 22 #[v] w fun e w' => ∃ v', e = .returned (.tuple #[v', .bool (mvalid xs)]) ∧ w'.ownsRow w.heap.size 51 3 v' (stL (ordM xs)).length (scells (stL (ordM xs))) ∧ Below w.heap.size w w' := by
  rw [stL_len]; exact imOrderMoves_c xs v w hx
end Go.Proofs.YtplapaojgcloaaaGreatDoor
namespace Go.PM
open Go.RowKit
theorem rows_ne {w : World} {base base' : Nat} {e e' : TypeId} {size size' n n' : Nat} {v v' : Value} {cs cs' : List Value} (h : w.ownsRow base e size v n cs) (h' : w.ownsRow base' e' size' v' n' cs') (hne : e ≠ e') : v.ownBlock ≠ v'.ownBlock ∨ v'.ownBlock = none := by
  rcases h'.2 with ⟨rfl, _⟩ | ⟨g, cap, cur, rfl, _, hg, _⟩
  · exact .inr rfl
  · refine .inl fun e1 => ?_
    rcases h.2 with ⟨rfl, _⟩ | ⟨g2, cap2, cur2, rfl, _, hg2, _⟩
    · cases e1
    · cases e1
      rw [hg] at hg2
      cases hg2
      exact hne rfl
theorem redM_spec {ws : List Mv} (h : Wt ws) {i : Nat} (hi : i < ws.length) : redM ws[i] (ws.eraseIdx i) = if isP ws[i].2 = true then instM ws[i].2 ws[i].1 (ws.eraseIdx i) else ws.eraseIdx i := by
  have hm := List.getElem_mem hi
  unfold redM
  rcases h.from_ _ hm with h1 | h1 | h1
  · rw [if_neg (by rw [(isP_cases h1).1]; decide), if_pos h1]
  · rw [if_pos h1, if_neg (by rw [(isD_cases h1).1]; decide)]
  · rw [h1, if_neg (by rw [spT_cases.2]; decide), if_neg (by rw [spT_cases.1]; decide)]
    refine instM_none ?_
    have h2 := rdN_erase ws i hi spT
    rw [if_pos h1] at h2
    have := h.one
    omega
theorem redM_spec0 {ws : List Mv} (h : Wt ws) (h0 : 0 < ws.length) : redM (spT, ws[0].1) ws = instM ws[0].1 spT ws := by
  unfold redM
  rw [if_neg (by show ¬ isD ws[0].1 = true; rw [(isP_cases (h.to_ _ (List.getElem_mem h0))).1]; decide)]
/-- what the ordering holds at the head of a round: k steps are enough for what waits -/
def OrdS (w : World) (e f : TypeId) (xs : List Mv) (k : Nat) (ov wv : Value) (A : World) : Prop :=
  ∃ (pre ws : List Mv), pre ++ ordF k ws = ordF 19 xs ∧ Wt ws ∧ muW ws ≤ k ∧ ws.length ≤ 9 ∧ A.ownsRow w.heap.size e 2 wv ws.length (mcells ws) ∧ A.ownsRow w.heap.size f 3 ov pre.length (scells (stL pre)) ∧ Below w.heap.size w A
end Go.PM
namespace Go.Proofs.YtplapaojgcloaaaGreatDoor
open Go.RowKit Go.PM
attribute [local go_sem] Oper.semAt_some

/-- append of one step -/
theorem app_stp {ops : Array Oper} {rest : List Oper} {o : Oper} {a : Act} {Q : Exit → Act → World → Prop} {w : World} (hgd : o.guard = none) (s x : Operand)
    (ho : o.op = .call { callee := .builtin .append, args := #[s, x], argTypes := #[26, 26] })
    (base : Nat) (v : Value) (ys : List Mv) (m : Mv) (ad : Addr) (c : Nat) (hs : a.eval s = v) (hx : a.eval x = .slice (some ad) 1 c)
    (hown : w.ownsRow base 51 3 v ys.length (scells (stL ys))) (hnew : ∀ j u, [Value.int .i64 0, Value.string m.1, Value.string m.2][j]? = some u → w.cell? (ad.add j) = some u)
    (hlen : ys.length ≤ 1048576) (hbase : base ≤ w.heap.size)
    (h : ∀ v' w', w'.ownsRow base 51 3 v' (ys ++ [m]).length (scells (stL (ys ++ [m]))) → w.grownBy w' v.ownBlock → wpList Tryz.prog ops Q rest (a.put o.dst v') w') : wpList Tryz.prog ops Q (o :: rest) a w := by
  obtain ⟨i0, hi0, hz0, hz1, hz2⟩ := info_parts infoStp
  refine wpList_append_own w hgd s x _ ho base 51 i0 _ 3 40 Tryz.underlying26 hi0 hz0 hz1 hz2 rfl (by omega) v ys.length (scells (stL ys)) hs hown ad 1 c [Value.int .i64 0, Value.string m.1, Value.string m.2] hx rfl hnew
    (by intro u hu; simp at hu; rcases hu with rfl | rfl | rfl <;> rfl) (by simp only [maxLen]; omega) (by omega) hbase ?_
  intro v' w' h2 h3 _
  refine h v' w' ?_ h3
  have hcs : scells (stL ys) ++ [Value.int .i64 0, Value.string m.1, Value.string m.2] = scells (stL (ys ++ [m])) := by unfold stL; rw [List.map_append, scells_append]; simp [scells, stpM]
  rw [← hcs, List.length_append]
  simpa using h2

set_option maxRecDepth 100000 in
set_option maxHeartbeats 6400000 in
theorem l5Order_c (xs : List Mv) (h1 : MV xs) (v : Value) (w : World) (hx : RdM w v xs) :
    Calls Tryz.prog 25 #[v] w fun e w' => ∃ v', e = .returned v' ∧ w'.ownsRow w.heap.size 51 3 v' (ordF 19 (busyF xs 9)).length (scells (stL (ordF 19 (busyF xs 9)))) ∧ Below w.heap.size w w' := by
  have hW := busyF_Wt h1
  have hl9 := busyF_len xs 9
  have HNX := Lib.hid (fun ws wv A hx hl hn => l5Next_c ws wv A hx (by omega : ws.length ≤ 1048575) hn)
  have HIN := Lib.hid (fun ws wv a c A hx hl => l5Instead_c ws wv a c A hx (by omega : ws.length ≤ 1048575))
  have hE0 := World.ownsRow_lit (e := 51) (base := w.heap.size) (size := 3) w #[] 0 (Nat.le_refl _) (Nat.zero_le _) rfl
  have hb0 : Below w.heap.size w (w.alloc (.cells #[] 51)) := (Below.refl _ _).alloc (Nat.le_refl _) _
  have HB := Lib.hid (l1Busy_c xs v _ (hx.below hb0))
  go_enter Tryz.func25, Tryz.ntmps25
  go_wp2_with (go_at_call 52; refine HB.out.mono ?_; rintro e w1 ⟨v1, rfl, ho1, hb1⟩; refine held ?_)
  unfold Held
  have hb01 := hb0.trans (hb1.mono (by simp))
  have hR0 : OrdS w 37 51 (busyF xs 9) 19 (.slice (some ⟨w.heap.size, 0, none⟩) 0 0) v1 w1 :=
    ⟨[], busyF xs 9, rfl, hW, by have := hl9; unfold muW; split <;> omega, hl9, own_more ho1 hb0.size, own_keep hE0 hb1, hb01⟩
  clear hE0 hb0 HB ho1 hb1 hb01 hx hl9 hW h1
  generalize hbe : busyF xs 9 = bs at *
  have HBE := Lib.hid hbe
  clear hbe
  go_wp2
  go_loopw [3, 4, 5, 6, 7] (fun ov wv _ _ _ wr => ∃ k, OrdS w 37 51 bs k ov wv wr) (fun ov wv _ _ _ wr => leastK (fun k => OrdS w 37 51 bs k ov wv wr))
  case atStart => exact ⟨19, hR0⟩
  case round =>
    obtain ⟨hru, _⟩ := leastK_spec hrel
    generalize hkk : leastK (fun k => OrdS w 37 51 bs k u3 u4 wr) = kk at *
    have HKK := Lib.hid hkk
    clear hrel hkk hR0
    obtain ⟨pre, ws, hpr, hwt, hmu, h9, ho, hov, hb⟩ := hru
    have hbs := hb.size
    have hrd : RdM wr u4 ws := Rd.of_own ho
    obtain ⟨A, cap, rfl, hn1, hc1, hcell⟩ := hrd.open
    have hpl : pre.length ≤ 100 := by
      have h1 := congrArg List.length hpr
      rw [List.length_append] at h1
      have h2 := ordF_len 19 bs
      omega
    by_cases h0 : 0 < ws.length
    · obtain ⟨k, rfl⟩ : ∃ k', kk = k' + 1 := ⟨kk - 1, by unfold muW at hmu; omega⟩
      obtain ⟨b, off, rfl, hbl, d1', d2'⟩ := hcell 0 h0
      have hblo := (own_lt ho)
      have hcs : ∀ q (hq : q < ws.length), wr.cell? ⟨b, off + q * 2, none⟩ = some (.string ws[q].1) ∧ wr.cell? ⟨b, off + q * 2 + 1, none⟩ = some (.string ws[q].2) := fun q hq => by
        obtain ⟨b', off', e, _, q1, q2⟩ := hcell q hq
        cases e; exact ⟨q1, q2⟩
      have d1 : wr.cell? ⟨b, off, none⟩ = some (.string ws[0].1) := by simpa using d1'
      have i00 : (0 : Int) < (ws.length : Int) := by omega
      have hnx := HNX.out ws _ wr hrd (by omega) hwt.ne
      clear d1' d2' hcell
      rcases aheadZ_lt ws with hz | ⟨i, hi, hz, ha⟩
      · have ha := aheadI_of_neg hz
        have hof := ordF_none (n := k) h0 ha
        have hrn := hwt.none_ h0 ha
        have hrs := redM_spec0 hwt h0
        have hmn := muW_none hwt h0 ha
        rw [hrs] at hof hrn hmn
        have hin := HIN.out ws (.slice (some ⟨b, off, none⟩) ws.length cap) ws[0].1 spT
        have hnw := three_new
        have HNEW : Hid ((pre ++ [(spT, ws[0].1)]) ++ ordF k (instM ws[0].1 spT ws) = ordF 19 bs ∧ Wt (instM ws[0].1 spT ws) ∧ muW (instM ws[0].1 spT ws) ≤ k ∧ (instM ws[0].1 spT ws).length ≤ 9) :=
          ⟨by rw [← hpr, hof]; simp, hrn.1, by omega, by rw [instM_len]; exact h9⟩
        have HSP : Hid (spT = ⟨#[116]⟩) := rfl
        rw [hz] at hnx
        clear hz hof hrn hrs hmn hcs ha hpr
        generalize instM ws[0].1 spT ws = ws2 at *
        generalize ws[0].1 = x1 at *
        generalize spT = sp at *
        have hsp := HSP.out
        subst hsp
        go_wp2_with (go_at_call 53; refine hnx.mono ?_; rintro e w1' ⟨rfl, hb1⟩; refine held ?_)
        unfold Held
        have e1 := (hb1.cell (p := ⟨b, off, none⟩) hbl).trans d1
        have hov1 := own_keep hov hb1
        have ho1 := own_keep ho hb1
        have hB1 := hb.trans (hb1.mono hbs)
        have hs1 := hB1.size
        clear d1 hov ho hrd hb hb1
        go_wp2_with (at_builtin; refine held ?_)
        unfold Held
        refine app_stp rfl (.tmp 22) (.tmp 26) rfl w.heap.size _ pre (⟨#[116]⟩, x1) ⟨w1'.heap.size, 0, none⟩ 1 (by rfl) (by rfl) (own_keep hov1 ((Below.refl _ _).alloc (Nat.le_refl _) _)) (three_new w1' _ _ _ _) (by omega) (by simp; omega) ?_
        intro v3 w3 hov3 hg3
        have hbx : Below w.heap.size w (w1'.alloc (.cells #[.int .i64 0, .string ⟨#[116]⟩, .string x1] 51)) := hB1.alloc hs1 _
        have hB3 := hbx.trans (below_grown hg3 (by simp; omega) (own_block_ge hov1))
        have hs3 := hB3.size
        have ho3 := own_grown (own_keep ho1 ((Below.refl _ _).alloc (Nat.le_refl _) (.cells #[.int .i64 0, .string ⟨#[116]⟩, .string x1] 51))) hg3 (rows_ne ho1 hov1 (by decide))
        have hrd3 : RdM w3 _ ws := Rd.of_own ho3
        clear hg3 hbx hB1 hov1 ho1 e1
        go_wp2_with fail
        refine (hin w3 hrd3 (by omega)).mono ?_
        rintro e w4 ⟨v4, rfl, ho4, hb4⟩
        have hOR : OrdS w 37 51 bs k v3 v4 w4 := ⟨_, ws2, HNEW.out.1, HNEW.out.2.1, HNEW.out.2.2.1, HNEW.out.2.2.2, own_more ho4 hs3, own_keep hov3 hb4, hB3.trans (hb4.mono hs3)⟩
        clear ho4 hov3 hb4 ho3 hrd3
        go_wp2
        go_roundw
        case rel => exact ⟨k, hOR⟩
        case measure =>
          rw [HKK.out]
          have := (leastK_spec (P := fun k => OrdS w 37 51 bs k v3 v4 w4) ⟨k, hOR⟩).2 _ hOR
          omega
      · have hof := ordF_some (n := k) hi ha
        have hrn := hwt.some_ hi (aheadI_some ha).2
        have hrs := redM_spec hwt hi
        have hmn := muW_some hi ws[i]
        have hlr : (redM ws[i] (ws.eraseIdx i)).length ≤ 9 := by rw [redM_len, List.length_eraseIdx_of_lt hi]; omega
        have hin := fun v => HIN.out (ws.eraseIdx i) v ws[i].2 ws[i].1
        have hle9 : (ws.eraseIdx i).length ≤ 9 := by rw [List.length_eraseIdx_of_lt hi]; omega
        have HNEW : Hid ((pre ++ [ws[i]]) ++ ordF k (redM ws[i] (ws.eraseIdx i)) = ordF 19 bs ∧ Wt (redM ws[i] (ws.eraseIdx i)) ∧ muW (redM ws[i] (ws.eraseIdx i)) ≤ k ∧ (redM ws[i] (ws.eraseIdx i)).length ≤ 9) :=
          ⟨by rw [← hpr, hof]; simp, hrn, by omega, hlr⟩
        have HRS := Lib.hid hrs
        have hci := hcs i hi
        have i0 : (0 : Int) ≤ (i : Int) := by omega
        have i1 : (i : Int) < (ws.length : Int) := by omega
        rw [hz] at hnx
        clear hz hof hrn hrs hmn hcs ha hpr hlr d1
        generalize redM ws[i] (ws.eraseIdx i) = ws2 at *
        rw [show ws[i] = (ws[i].1, ws[i].2) from rfl] at HNEW
        generalize ws[i].1 = x1 at *
        generalize ws[i].2 = x2 at *
        go_wp2_with (go_at_call 53; refine hnx.mono ?_; rintro e w1' ⟨rfl, hb1⟩; refine held ?_)
        unfold Held
        have e1 := (hb1.cell (p := ⟨b, off + i * 2, none⟩) hbl).trans hci.1
        have e2 := (hb1.cell (p := ⟨b, off + i * 2 + 1, none⟩) hbl).trans hci.2
        have hov1 := own_keep hov hb1
        have ho1 := own_keep ho hb1
        have hB1 := hb.trans (hb1.mono hbs)
        have hs1 := hB1.size
        clear hov ho hrd hb hb1 hci
        have hN1 := At.new w1' 37 #[.string x1, .string x2]
        have hax : Below w1'.heap.size w1' (w1'.alloc (.cells #[.string x1, .string x2] 37)) := (Below.refl _ _).alloc (Nat.le_refl _) _
        have hov1b := own_keep hov1 hax
        have ho1b := own_keep ho1 hax
        have hnw := three_new (w1'.alloc (.cells #[.string x1, .string x2] 37)) (.int .i64 0) (.string x1) (.string x2) 51
        rw [World.size_alloc] at hnw
        go_wp2_with (at_builtin; refine held ?_)
        unfold Held
        refine app_stp rfl (.tmp 35) (.tmp 38) rfl w.heap.size _ pre (x1, x2) ⟨w1'.heap.size + 1, 0, none⟩ 1 (by rfl) (by rfl) (own_keep hov1b ((Below.refl _ _).alloc (Nat.le_refl _) _)) hnw (by omega) (by simp; omega) ?_
        intro v3 wx hov3 hg3
        have hbx : Below w.heap.size w ((w1'.alloc (.cells #[.string x1, .string x2] 37)).alloc (.cells #[.int .i64 0, .string x1, .string x2] 51)) := (hB1.alloc hs1 _).alloc (by simp; omega) _
        have hB3 := hbx.trans (below_grown hg3 (by simp; omega) (own_block_ge hov1))
        have hs3 := hB3.size
        have ho3 := own_grown (own_keep ho1b ((Below.refl _ _).alloc (Nat.le_refl _) (.cells #[.int .i64 0, .string x1, .string x2] 51))) hg3 (rows_ne ho1b hov1b (by decide))
        have hN3 := (hN1.alloc (.cells #[.int .i64 0, .string x1, .string x2] 51)).grown hg3 (own_box_ne hov1b hN1 (by decide))
        have hrdx : RdM wx (.slice (some ⟨b, off, none⟩) ws.length cap) ws := Rd.of_own ho3
        have hblx : b < wx.heap.size := (own_blk ho3 rfl).1
        have hsrc := Rd.cellsFrom hrdx
        clear hg3 hbx hB1 hov1 ho1 e1 e2 hov1b ho1b hax hN1 hnw hnx
        have hcp : ∀ (W : World), Below wx.heap.size wx W → ∀ (j : Nat) (u : Value), (mcells (ws.take i))[j]? = some u → W.cell? ((⟨b, off, none⟩ : Addr).add j) = some u := fun W hW j u h => by
          rw [add_off]
          refine (hW.cell hblx).trans (hsrc j u ?_)
          rw [← mcells_take, List.getElem?_take] at h
          split at h
          · exact h
          · cases h
        have hcq : ∀ (W : World), Below wx.heap.size wx W → ∀ (j : Nat) (u : Value), (mcells (ws.drop (i + 1)))[j]? = some u → W.cell? ((⟨b, off + (i + 1) * 2, none⟩ : Addr).add j) = some u := fun W hW j u h => by
          rw [add_off, Nat.add_assoc]
          refine (hW.cell hblx).trans (hsrc _ u ?_)
          rw [← mcells_drop, List.getElem?_drop] at h
          exact h
        have hltk : (ws.take i).length = i := by rw [List.length_take]; omega
        have hldk : (ws.drop (i + 1)).length = ws.length - (i + 1) := by rw [List.length_drop]
        have hsum : (ws.take i).length + (ws.drop (i + 1)).length ≤ 1048576 := by omega
        have i2 : (i : Int) + 1 ≤ (ws.length : Int) := by omega
        have i3 : (i : Int) ≤ (ws.length : Int) := by omega
        have HER : Hid (ws.take i ++ ws.drop (i + 1) = ws.eraseIdx i) := by show _ = _; rw [List.eraseIdx_eq_take_drop_succ]
        have HCP := Lib.hid hcp
        have HCQ := Lib.hid hcq
        have n1 : i ≤ cap := by omega
        have n2 : i + 1 ≤ ws.length := by omega
        have n3 : i + 1 ≤ cap := by omega
        have n4 : IntKind.i64.wrap ((i : Int) + 1) = (i : Int) + 1 := IntWalk.i64_in _ ⟨by omega, by omega⟩
        have n5 : ((i : Int) + 1).toNat = i + 1 := by omega
        have n6 : (0 : Int) ≤ (i : Int) + 1 := by omega
        clear hcp hcq hsrc
        generalize ws.take i = p1 at *
        generalize ws.drop (i + 1) = p2 at *
        by_cases hcap : cap = i + 1
        · subst hcap
          have hp20 : p2.length = 0 := by omega
          have n7 : (i : Int) ≤ (i : Int) + 1 := by omega
          have HCZ : Hid (∀ (W : World) (j : Nat) (u : Value), (mcells p2)[j]? = some u → W.cell? ((⟨b, off, none⟩ : Addr).add j) = some u) := fun W j u h => by
            have : p2 = [] := List.length_eq_zero_iff.1 (by omega)
            rw [this] at h; simp [mcells] at h
          go_wp2
          go_region_law (first
                    | (refine step_appM rfl (.tmp 40) (.tmp 43) rfl wx.heap.size (.slice (some ⟨wx.heap.size, 0, none⟩) 0 0) [] p1 ⟨b, off, none⟩ (i + 1) (by rfl) (by rw [hltk]; rfl) (own_lit1 _ _ _ _ rfl (Nat.le_refl _)) (HCP.out _ (by (repeat' (first | (with_reducible exact Below.refl _ _) | (with_reducible assumption) | (with_reducible refine Below.alloc ?_ ?_ _) | (with_reducible refine Below.drew ?_) | (with_reducible refine Below.setCell ?_ ?_ _) | (with_reducible exact Nat.le_refl _) | omega | ((repeat (first | rewrite [World.size_alloc] | rewrite [World.size_setCell] | rewrite [World.size_drew])); omega) | (simp; omega) | (simp; done))))) (by simp; omega) (by simp) ?_; intro vq wq ho1 hg1; have hb1' := Below.trans (show Below wx.heap.size wx ((wx.alloc (.cells #[] 37)).drew) by (repeat' (first | (with_reducible exact Below.refl _ _) | (with_reducible assumption) | (with_reducible refine Below.alloc ?_ ?_ _) | (with_reducible refine Below.drew ?_) | (with_reducible refine Below.setCell ?_ ?_ _) | (with_reducible exact Nat.le_refl _) | omega | ((repeat (first | rewrite [World.size_alloc] | rewrite [World.size_setCell] | rewrite [World.size_drew])); omega) | (simp; omega) | (simp; done)))) (below_grown hg1 (by simp) (fun g e => by have e' : some wx.heap.size = some g := e; cases e'; omega)))
                    | (refine step_appM rfl (.tmp 44) (.tmp 48) rfl wx.heap.size _ _ p2 ⟨b, off, none⟩ 0 (by rfl) (by rw [hp20]; rfl) ho1.out (HCZ.out _) (by simpa using hsum) (by have := hg1.size; simp at this; omega) ?_; intro v2 w2 ho2 hg2))
          have hz1 := hg1.size
          have hz2 := hg2.size
          simp only [World.size_alloc, World.size_drew] at hz1
          have hge1 := own_block_ge ho1.out
          have hb2 : Below wx.heap.size wx w2 := hb1'.trans (below_grown hg2 (by omega) (fun g e => by have := hge1 g e; omega))
          have ho2' : w2.ownsRow wx.heap.size 37 2 v2 (ws.eraseIdx i).length (mcells (ws.eraseIdx i)) := by
            have := ho2.out
            rw [List.nil_append, HER.out] at this
            exact this
          have HO2 := Lib.hid ho2'
          clear hg1 hg2 ho1 ho2 hb1' ho2' hge1 hz1 hz2 HCP HCQ HER
          
          have q1 := hN3.keep hb2
          have q11 : w2.cell? ⟨w1'.heap.size, 0, none⟩ = some (.string x1) := q1.cell 0
          have q12 : w2.cell? ⟨w1'.heap.size, 1, none⟩ = some (.string x2) := q1.cell 1
          have hov4 := own_keep hov3 hb2
          have hB4 := hB3.trans (hb2.mono hs3)
          have hs4 := hB4.size
          have hs5 := hb2.size
          clear q1 hN3 hov3 hrdx ho3 hB3 hb2
          rcases Bool.eq_false_or_eq_true (isP x2) with hp | hp
          · have hr := HRS.out
            rw [if_pos hp] at hr
            have hrd5 : RdM w2 v2 (ws.eraseIdx i) := Rd.of_own HO2.out
            have HI := Lib.hid (hin v2 w2 hrd5 (by omega))
            rw [← hr] at HI
            clear hr hrd5 hin
            go_wp2_with (first | (go_at_call 55; refine (l1Place_c _ _).mono ?_; rintro e w' ⟨rfl, rfl⟩) | (go_at_call 54; refine HI.out.mono ?_; rintro e w6 ⟨v6, rfl, ho6, hb6⟩; refine held ?_))
            unfold Held
            have hOR : OrdS w 37 51 bs k v3 v6 w6 := ⟨_, ws2, HNEW.out.1, HNEW.out.2.1, HNEW.out.2.2.1, HNEW.out.2.2.2, own_more ho6 hs4, own_keep hov4 hb6, hB4.trans (hb6.mono hs4)⟩
            clear ho6 hov4 hb6 hB4
            go_wp2
            go_roundw
            case rel => exact ⟨k, hOR⟩
            case measure =>
              rw [HKK.out]
              have := (leastK_spec (P := fun k => OrdS w 37 51 bs k v3 v6 w6) ⟨k, hOR⟩).2 _ hOR
              omega
          · have hr := HRS.out
            rw [if_neg (by rw [hp]; decide)] at hr
            have ho7 := HO2.out
            rw [← hr] at ho7
            have hOR : OrdS w 37 51 bs k v3 v2 w2 := ⟨_, ws2, HNEW.out.1, HNEW.out.2.1, HNEW.out.2.2.1, HNEW.out.2.2.2, own_more ho7 (by omega), hov4, hB4⟩
            clear hr ho7 hov4 hB4 hin
            go_wp2_with (go_at_call 55; refine (l1Place_c _ _).mono ?_; rintro e w' ⟨rfl, rfl⟩)
            go_roundw
            case rel => exact ⟨k, hOR⟩
            case measure =>
              rw [HKK.out]
              have := (leastK_spec (P := fun k => OrdS w 37 51 bs k v3 v2 w2) ⟨k, hOR⟩).2 _ hOR
              omega
        · go_wp2
          go_region_law (first
                    | (refine step_appM rfl (.tmp 40) (.tmp 43) rfl wx.heap.size (.slice (some ⟨wx.heap.size, 0, none⟩) 0 0) [] p1 ⟨b, off, none⟩ cap (by rfl) (by rw [hltk]; rfl) (own_lit1 _ _ _ _ rfl (Nat.le_refl _)) (HCP.out _ (by (repeat' (first | (with_reducible exact Below.refl _ _) | (with_reducible assumption) | (with_reducible refine Below.alloc ?_ ?_ _) | (with_reducible refine Below.drew ?_) | (with_reducible refine Below.setCell ?_ ?_ _) | (with_reducible exact Nat.le_refl _) | omega | ((repeat (first | rewrite [World.size_alloc] | rewrite [World.size_setCell] | rewrite [World.size_drew])); omega) | (simp; omega) | (simp; done))))) (by simp; omega) (by simp) ?_; intro vq wq ho1 hg1; have hb1' := Below.trans (show Below wx.heap.size wx ((wx.alloc (.cells #[] 37)).drew) by (repeat' (first | (with_reducible exact Below.refl _ _) | (with_reducible assumption) | (with_reducible refine Below.alloc ?_ ?_ _) | (with_reducible refine Below.drew ?_) | (with_reducible refine Below.setCell ?_ ?_ _) | (with_reducible exact Nat.le_refl _) | omega | ((repeat (first | rewrite [World.size_alloc] | rewrite [World.size_setCell] | rewrite [World.size_drew])); omega) | (simp; omega) | (simp; done)))) (below_grown hg1 (by simp) (fun g e => by have e' : some wx.heap.size = some g := e; cases e'; omega)))
                    | (refine step_appM rfl (.tmp 44) (.tmp 48) rfl wx.heap.size _ _ p2 ⟨b, off + (i + 1) * 2, none⟩ (cap - (i + 1)) (by rfl) (by rw [hldk]; rfl) ho1.out (HCQ.out _ hb1') (by simpa using hsum) (by have := hg1.size; simp at this; omega) ?_; intro v2 w2 ho2 hg2))
          have hz1 := hg1.size
          have hz2 := hg2.size
          simp only [World.size_alloc, World.size_drew] at hz1
          have hge1 := own_block_ge ho1.out
          have hb2 : Below wx.heap.size wx w2 := hb1'.trans (below_grown hg2 (by omega) (fun g e => by have := hge1 g e; omega))
          have ho2' : w2.ownsRow wx.heap.size 37 2 v2 (ws.eraseIdx i).length (mcells (ws.eraseIdx i)) := by
            have := ho2.out
            rw [List.nil_append, HER.out] at this
            exact this
          have HO2 := Lib.hid ho2'
          clear hg1 hg2 ho1 ho2 hb1' ho2' hge1 hz1 hz2 HCP HCQ HER
          
          have q1 := hN3.keep hb2
          have q11 : w2.cell? ⟨w1'.heap.size, 0, none⟩ = some (.string x1) := q1.cell 0
          have q12 : w2.cell? ⟨w1'.heap.size, 1, none⟩ = some (.string x2) := q1.cell 1
          have hov4 := own_keep hov3 hb2
          have hB4 := hB3.trans (hb2.mono hs3)
          have hs4 := hB4.size
          have hs5 := hb2.size
          clear q1 hN3 hov3 hrdx ho3 hB3 hb2
          rcases Bool.eq_false_or_eq_true (isP x2) with hp | hp
          · have hr := HRS.out
            rw [if_pos hp] at hr
            have hrd5 : RdM w2 v2 (ws.eraseIdx i) := Rd.of_own HO2.out
            have HI := Lib.hid (hin v2 w2 hrd5 (by omega))
            rw [← hr] at HI
            clear hr hrd5 hin
            go_wp2_with (first | (go_at_call 55; refine (l1Place_c _ _).mono ?_; rintro e w' ⟨rfl, rfl⟩) | (go_at_call 54; refine HI.out.mono ?_; rintro e w6 ⟨v6, rfl, ho6, hb6⟩; refine held ?_))
            unfold Held
            have hOR : OrdS w 37 51 bs k v3 v6 w6 := ⟨_, ws2, HNEW.out.1, HNEW.out.2.1, HNEW.out.2.2.1, HNEW.out.2.2.2, own_more ho6 hs4, own_keep hov4 hb6, hB4.trans (hb6.mono hs4)⟩
            clear ho6 hov4 hb6 hB4
            go_wp2
            go_roundw
            case rel => exact ⟨k, hOR⟩
            case measure =>
              rw [HKK.out]
              have := (leastK_spec (P := fun k => OrdS w 37 51 bs k v3 v6 w6) ⟨k, hOR⟩).2 _ hOR
              omega
          · have hr := HRS.out
            rw [if_neg (by rw [hp]; decide)] at hr
            have ho7 := HO2.out
            rw [← hr] at ho7
            have hOR : OrdS w 37 51 bs k v3 v2 w2 := ⟨_, ws2, HNEW.out.1, HNEW.out.2.1, HNEW.out.2.2.1, HNEW.out.2.2.2, own_more ho7 (by omega), hov4, hB4⟩
            clear hr ho7 hov4 hB4 hin
            go_wp2_with (go_at_call 55; refine (l1Place_c _ _).mono ?_; rintro e w' ⟨rfl, rfl⟩)
            go_roundw
            case rel => exact ⟨k, hOR⟩
            case measure =>
              rw [HKK.out]
              have := (leastK_spec (P := fun k => OrdS w 37 51 bs k v3 v2 w2) ⟨k, hOR⟩).2 _ hOR
              omega

    · have : ws = [] := List.length_eq_zero_iff.1 (by omega)
      subst this
      rw [ordF_nil, List.append_nil] at hpr
      rw [hpr] at hov
      go_wp2
      go_ret
      exact ⟨_, rfl, by rw [HBE.out]; exact hov, hb⟩
end Go.Proofs.YtplapaojgcloaaaGreatDoor
