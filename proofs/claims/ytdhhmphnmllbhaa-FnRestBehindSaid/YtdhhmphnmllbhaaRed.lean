import Derived.Test.YtdhhmphnmllbhaaWo
namespace Go.PM
open Go.RowKit
/-- the first k moves are redirected -/
def redK (d : Mv) (xs : List Mv) (k : Nat) : List Mv := redM d (xs.take k) ++ xs.drop k
theorem redK_len (d : Mv) (xs : List Mv) (k : Nat) : (redK d xs k).length = xs.length := by
  unfold redK
  rw [List.length_append, redM_len, List.length_take, List.length_drop]; omega
theorem redK_zero (d : Mv) (xs : List Mv) : redK d xs 0 = xs := by
  unfold redK redM
  simp [instM]
theorem redK_full (d : Mv) (xs : List Mv) : redK d xs xs.length = redM d xs := by
  unfold redK; simp
def redB (d : Mv) (m : Mv) : Bool := decide (m.2 = d.2) && !isD d.2
theorem redM_append (d : Mv) (xs ys : List Mv) : redM d (xs ++ ys) = redM d xs ++ redM d ys := by
  unfold redM; split
  · rfl
  · simp [instM]
theorem redM_one (d m : Mv) : redM d [m] = [if redB d m = true then (m.1, d.1) else m] := by
  unfold redM redB instM
  by_cases h : isD d.2 = true
  · rw [if_pos h, h]; simp
  · rw [if_neg h]
    have : isD d.2 = false := by simpa using h
    rw [this]
    by_cases h2 : m.2 = d.2
    · simp [h2]
    · simp [h2]
theorem redK_at (d : Mv) (xs : List Mv) (k : Nat) (hk : k < xs.length) : (redK d xs k)[k]? = some xs[k] := by
  unfold redK
  rw [List.getElem?_append_right (by rw [redM_len, List.length_take]; omega), redM_len, List.length_take, List.getElem?_drop]
  rw [show k + (k - min k xs.length) = k by omega, List.getElem?_eq_getElem hk]
theorem redK_succ (d : Mv) (xs : List Mv) (k : Nat) (hk : k < xs.length) : redK d xs (k + 1) = (redK d xs k).set k (if redB d xs[k] = true then (xs[k].1, d.1) else xs[k]) := by
  have hl : (redM d (xs.take k)).length = k := by rw [redM_len, List.length_take]; omega
  unfold redK
  rw [take_snoc xs k hk, redM_append, redM_one, List.set_append_right _ _ (by omega), hl, Nat.sub_self, List.drop_eq_getElem_cons hk, List.set_cons_zero, List.append_assoc]
  rfl
theorem mcells_set2 (xs : List Mv) (k : Nat) (hk : k < xs.length) (s : ByteArray) : (mcells xs).set (k * 2 + 1) (.string s) = mcells (xs.set k (xs[k].1, s)) := by
  induction xs generalizing k with
  | nil => simp at hk
  | cons x xs ih =>
    cases k with
    | zero => simp [mcells]
    | succ k =>
      have := ih k (by simpa using hk)
      rw [mcells_cons, List.set_cons_succ, show (k + 1) * 2 = k * 2 + 1 + 1 by omega, List.set_cons_succ, this, List.set_cons_succ, mcells_cons]
      rfl
end Go.PM
namespace Go.Proofs.Ytdhhmphnmllbhaa
open Go.RowKit Go.PM

set_option maxRecDepth 100000 in
set_option maxHeartbeats 1600000 in
theorem redirected_c (xs : List Mv) (v : Value) (d : Mv) (w : World) (hx : RdM w v xs) (hn' : xs.length ≤ 1048576) :
    Calls Try.prog 59 #[v, .agg #[.string d.1, .string d.2]] w fun e w' => ∃ v', e = .returned v' ∧ w'.ownsRow w.heap.size 37 2 v' (redM d xs).length (mcells (redM d xs)) ∧ Below w.heap.size w w' := by
  have hx0 := hx
  obtain ⟨A, cap, rfl, hn, hc, hcell⟩ := hx.open
  obtain ⟨i0, hi0, hz0, hz1, hz2⟩ := info_parts infoMv
  have hmk := fun W : World => run_make (P := Try.prog) W 26 37 i0 _ Try.underlying26 hi0 hz0 .i64 .i64 ((xs.length : Nat) : Int) ((xs.length : Nat) : Int) (by omega) (Int.le_refl _) (by rw [hz2]; omega) (by omega)
  simp only [Int.toNat_natCast, hz1] at hmk
  obtain ⟨Z, hZ, hZl⟩ : ∃ Z : List Value, madeCells #[Value.string ⟨#[]⟩, Value.string ⟨#[]⟩] (xs.length * 2) = Z.toArray ∧ Z.length = xs.length * 2 := ⟨(madeCells #[Value.string ⟨#[]⟩, Value.string ⟨#[]⟩] (xs.length * 2)).toList, by simp, by rw [Array.length_toList]; exact size_madeCells _ _⟩
  have hmk2 : ∀ W : World, Sem.run Try.prog (Instr.makeSlice 26 (.int .i64 (xs.length : Nat)) (.int .i64 (xs.length : Nat))) W = .ok (.slice (some ⟨W.heap.size, 0, none⟩) xs.length xs.length) (W.alloc (.cells Z.toArray 37)) := fun W => by rw [hmk W]; exact congrArg (fun c => Result.ok (Value.slice (some ⟨W.heap.size, 0, none⟩) xs.length xs.length) (W.alloc (.cells c 37))) hZ
  clear hmk hZ hz0 hz1 hz2 hi0 i0
  obtain ⟨W0, hW0⟩ : ∃ W0 : World, W0 = (w.alloc (.cells #[.string d.1, .string d.2] 37)).alloc (.cells Z.toArray 37) := ⟨_, rfl⟩
  have hD : At W0 w.heap.size 37 #[.string d.1, .string d.2] := by rw [hW0]; exact (At.new _ _ _).alloc _
  have hO : At W0 (w.heap.size + 1) 37 Z.toArray := by
    rw [hW0]; have := At.new (w.alloc (.cells #[.string d.1, .string d.2] 37)) 37 Z.toArray
    rwa [World.size_alloc] at this
  have hB : Below w.heap.size w W0 := by rw [hW0]; (repeat' (first | (with_reducible exact Below.refl _ _) | (with_reducible assumption) | (with_reducible refine Below.alloc ?_ ?_ _) | (with_reducible refine Below.drew ?_) | (with_reducible refine Below.setCell ?_ ?_ _) | (with_reducible exact Nat.le_refl _) | omega | ((repeat (first | rewrite [World.size_alloc] | rewrite [World.size_setCell] | rewrite [World.size_drew])); omega) | (simp; omega) | (simp; done)))
  have hB1 : Below (w.heap.size + 1) W0 W0 := Below.refl _ _
  have hl1 := mcells_length xs
  have o1 := mcells_one xs
  have hsp : splice Z 0 (mcells xs) = mcells xs := by unfold splice; simp [hl1, hZl]
  obtain ⟨X1, hX1⟩ : ∃ X, X = mcells xs := ⟨_, rfl⟩
  rw [← hX1] at hsp hl1 o1
  have HX := Lib.hid hX1
  have HSP := Lib.hid hsp
  have hp1 : 0 < Nat.min xs.length xs.length → (some ⟨w.heap.size + 1, 0, none⟩ : Option Addr) = some ⟨w.heap.size + 1, 0, none⟩ ∧ ∃ ad, A = some ad ∧ ∀ j v, X1[j]? = some v → W0.cell? (ad.add j) = some v := fun h => by
    refine ⟨rfl, ?_⟩
    obtain ⟨b, off, rfl, hbl, _, _⟩ := hcell 0 (by have e : Nat.min xs.length xs.length = xs.length := Nat.min_self _; rw [e] at h; exact h)
    refine ⟨_, rfl, fun j u hj => ?_⟩
    rw [show (⟨b, off, none⟩ : Addr).add j = ⟨b, off + j, none⟩ by unfold Addr.add; split <;> simp_all]
    exact (hB.cell hbl).trans (Rd.cellsFrom hx0 j u (by rw [← hX1]; exact hj))
  have HP1 := Lib.hid hp1
  clear hX1 hp1 hcell hx hx0 hsp
  have hm1 : Nat.min xs.length xs.length = xs.length := Nat.min_self _
  have hlt0 := hD.lt
  subst hW0
  go_enter Try.func59, Try.ntmps59
  go_wp2_with (refine wpList_copyN rfl (.tmp 10) (.tmp 11) 26 26 rfl 37 2 Try.underlying26 (by kernel_rfl) (some ⟨w.heap.size + 1, 0, none⟩) A xs.length xs.length xs.length cap (by rfl) (by rfl) (w.heap.size + 1) 0 Z 37 hO X1 (by rw [hl1, hm1]) HP1.out (by rw [hl1, hZl]; omega) o1 (w.heap.size + 1) _ hB1 (Nat.le_refl _) ?_; intro W1 hA1 hb1)
  have hA2 : At W1 (w.heap.size + 1) 37 (mcells (redK d xs 0)).toArray := by
    rw [redK_zero, ← HX.out, ← HSP.out]; exact hA1.out
  have hD2 : At W1 w.heap.size 37 #[.string d.1, .string d.2] := hD.below hb1 (by omega)
  have hb2 : Below w.heap.size w W1 := hB.trans (hb1.mono (by omega))
  have HRL := Lib.hid (redK_len d xs)
  have HRS := Lib.hid (redK_succ d xs)
  have HRA := Lib.hid (redK_at d xs)
  have HRF := Lib.hid (redK_full d xs)
  have HML := Lib.hid (fun k => (mcells_length (redK d xs k)).trans (by rw [redK_len]))
  clear hO hD hB hB1 HX HSP HP1 hA1 hb1
  go_loopw [6, 15] (fun _ i wr => ∃ (k : Nat), k ≤ xs.length ∧ i = .int .i64 k ∧ Below w.heap.size w wr ∧ At wr w.heap.size 37 #[.string d.1, .string d.2] ∧ At wr (w.heap.size + 1) 37 (mcells (redK d xs k)).toArray) (fun _ i _ => xs.length - (RowKit.intOf i).toNat)
  case atStart => exact ⟨0, by omega, rfl, hb2, hD2, hA2⟩
  case round =>
    obtain ⟨k, hk, rfl, hb, hD3, hA3⟩ := hrel
    have hbs := hb.size
    clear hA2 hD2 hb2
    by_cases hlt : k < xs.length
    · have hcs := mcells_at _ _ _ (HRA.out k hlt)
      have hst := HRS.out k hlt
      have hl3 := hA3.lt
      have hl4 := hD3.lt
      have e1 : ∀ j u, (mcells (redK d xs k))[j]? = some u → wr.cell? ⟨w.heap.size + 1, j, none⟩ = some u := fun j u h => (hA3.cell j).trans (by simpa using h)
      have c1 := e1 _ _ hcs.1
      have c2 := e1 _ _ hcs.2
      have z2 := hA3.frozen (k * 2 + 1)
      have d1 : wr.cell? ⟨w.heap.size, 0, none⟩ = some (.string d.1) := hD3.cell 0
      have d2 : wr.cell? ⟨w.heap.size, 1, none⟩ = some (.string d.2) := hD3.cell 1
      have hrb : redB d xs[k] = (decide (xs[k].2 = d.2) && !isD d.2) := rfl
      have hset := mcells_set2 (redK d xs k) k (by rw [HRL.out]; exact hlt) d.1
      have hat := HRA.out k hlt
      rw [List.getElem?_eq_getElem (by rw [HRL.out]; exact hlt), Option.some.injEq] at hat
      rw [hat] at hset
      have HST := Lib.hid hst
      have HSET := Lib.hid hset
      have HAT := Lib.hid hat
      clear hst hset hat e1 hcs
      generalize redB d xs[k] = rb at *
      generalize hm : xs[k] = m at *
      clear hm
      generalize m.1 = x1 at *
      generalize m.2 = x2 at *
      have i0 : (0 : Int) ≤ (k : Int) := by omega
      have i1 : (k : Int) < (xs.length : Int) := by omega
      have E2 : Hid ((mcells (redK d xs k)).toArray[k * 2 + 1]? = some (Value.string x2)) := by show _ = _; rw [← hA3.cell]; exact c2
      have x0 : ∀ x : Ext wr.heap.size wr, x.val.cell? ⟨w.heap.size, 0, none⟩ = some (.string d.1) := fun x => (x.property.cell (p := ⟨w.heap.size, 0, none⟩) hl4).trans d1
      have x1 : ∀ x : Ext wr.heap.size wr, x.val.cell? ⟨w.heap.size, 1, none⟩ = some (.string d.2) := fun x => (x.property.cell (p := ⟨w.heap.size, 1, none⟩) hl4).trans d2
      have x2c : ∀ x : Ext wr.heap.size wr, x.val.cell? ⟨w.heap.size + 1, k * 2 + 1, none⟩ = some (.string x2) := fun x => (x.property.cell (p := ⟨w.heap.size + 1, k * 2 + 1, none⟩) hl3).trans c2
      rcases Bool.eq_false_or_eq_true (x2.toList == d.2.toList) with hd | hd
      · have HD : Hid (decide (x2 = d.2) = true) := by show _ = _; rw [← beq_str]; exact hd
        rcases Bool.eq_false_or_eq_true (isD d.2) with hg | hg
        · have hG : Hid (rb = false) := by show _ = _; rw [hrb, hg]; simp
          clear hrb
          go_wp2
          refine wp_region_ext wr.heap.size (by kernel_rfl) (by kernel_rfl) ?_
          repeat (first | go_big_quiet_step (first | (go_at_call 91; exact ext_same _ (isDigit_c _ _))) | (refine wpQuiet_skip rfl ?_; simp only [Act.put, List.setIfInBounds_toArray, List.set_cons_succ, List.set_cons_zero]))
          refine wpQuiet_nil ?_
          intro w2 hw'
          obtain ⟨xw, hxw⟩ := hw'
          have hb2 := xw.property
          rw [← hxw] at hb2
          clear hxw xw x0 x1 x2c
          have hb3 : Below w.heap.size w w2 := hb.trans (hb2.mono hbs)
          have hA4 := hA3.keep hb2
          have hD4 := hD3.keep hb2
          clear hb2
          go_wp2
          go_roundw
          case rel => exact ⟨k + 1, by omega, by go_num, hb3, hD4, by rw [HST.out, hG.out, if_neg (by decide), ← HAT.out, List.set_getElem_self]; exact hA4⟩
          case measure => simp [RowKit.intOf]; omega
        · have hG : Hid (rb = true) := by show _ = _; rw [hrb, hg, HD.out]; rfl
          clear hrb
          go_wp2
          refine wp_region_ext wr.heap.size (by kernel_rfl) (by kernel_rfl) ?_
          repeat (first | go_big_quiet_step (first | (go_at_call 91; exact ext_same _ (isDigit_c _ _))) | (refine wpQuiet_skip rfl ?_; simp only [Act.put, List.setIfInBounds_toArray, List.set_cons_succ, List.set_cons_zero]))
          refine wpQuiet_nil ?_
          intro w2 hw'
          obtain ⟨xw, hxw⟩ := hw'
          have hb2 := xw.property
          rw [← hxw] at hb2
          clear hxw xw x0 x1 x2c
          have hb3 : Below w.heap.size w w2 := hb.trans (hb2.mono hbs)
          have hA4 := hA3.keep hb2
          have hD4 := hD3.keep hb2
          clear hb2
          have q1 : w2.cell? ⟨w.heap.size, 0, none⟩ = some (.string d.1) := hD4.cell 0
          have q2 : w2.cell? ⟨w.heap.size + 1, k * 2 + 1, none⟩ = some (.string x2) := (hA4.cell _).trans E2.out
          have q3 : w2.frozen? ⟨w.heap.size + 1, k * 2 + 1, none⟩ = false := hA4.frozen _
          have hs3 := hb3.size
          go_wp2
          go_roundw
          case rel =>
            refine ⟨k + 1, by omega, by go_num, hb3.setCell (by simp) _, At.far hD4 (by simp) _, ?_⟩
            rw [HST.out, hG.out, if_pos rfl, ← HSET.out, ← List.setIfInBounds_toArray]
            exact At.set hA4 _ _
          case measure => simp [RowKit.intOf]; omega
      · have hG : Hid (rb = false) := by show _ = _; rw [hrb, ← beq_str, hd]; rfl
        clear hrb
        go_wp2
        refine wp_region_ext wr.heap.size (by kernel_rfl) (by kernel_rfl) ?_
        repeat (first | go_big_quiet_step (first | (go_at_call 91; exact ext_same _ (isDigit_c _ _))) | (refine wpQuiet_skip rfl ?_; simp only [Act.put, List.setIfInBounds_toArray, List.set_cons_succ, List.set_cons_zero]))
        refine wpQuiet_nil ?_
        intro w2 hw'
        obtain ⟨xw, hxw⟩ := hw'
        have hb2 := xw.property
        rw [← hxw] at hb2
        clear hxw xw x0 x1 x2c
        have hb3 : Below w.heap.size w w2 := hb.trans (hb2.mono hbs)
        have hA4 := hA3.keep hb2
        have hD4 := hD3.keep hb2
        clear hb2
        go_wp2
        go_roundw
        case rel => exact ⟨k + 1, by omega, by go_num, hb3, hD4, by rw [HST.out, hG.out, if_neg (by decide), ← HAT.out, List.set_getElem_self]; exact hA4⟩
        case measure => simp [RowKit.intOf]; omega
    · have hk' : k = xs.length := by omega
      subst hk'
      rw [HRF.out] at hA3
      have hrl : (redM d xs).length = xs.length := redM_len d xs
      have ho := own_at wr (w.heap.size + 1) w.heap.size 37 (redM d xs) hA3 (by omega) (by omega)
      rw [hrl] at ho
      have HO := Lib.hid ho
      have HL := Lib.hid hrl
      clear ho hrl hA3
      go_wp2
      go_ret
      exact ⟨_, rfl, by rw [HL.out]; exact HO.out, hb⟩
end Go.Proofs.Ytdhhmphnmllbhaa
