import Derived.Test.YtogkodjlbdlgjaaCollT
namespace Go.PD
open Go.PM Go.RowKit
theorem mkD_far (s : List St) (k : Nat) (hk : k < s.length) {x : St} (e : s[k] = x) (h : far x = true) : mkD (s.take (k + 1)) = (mkD (s.take k) ++ [(0, spU, x.2.2)]) ++ [(0, x.2.1, spU)] := by
  rw [mkD_take s k hk, e, two_far h]; simp
theorem mkD_near (s : List St) (k : Nat) (hk : k < s.length) {x : St} (e : s[k] = x) (h : far x = false) : mkD (s.take (k + 1)) = mkD (s.take k) ++ [x] := by
  rw [mkD_take s k hk, e, two_near h]
theorem grown_cellQ (W : World) (b i : Nat) (v : Value) : W.grownBy (W.setCell ⟨b, i, none⟩ v) (some b) :=
  ⟨rfl, rfl, rfl, by simp [World.size_setCell], fun k _ hne => heap_setCell_other W _ k v (fun e => hne (by rw [e]))⟩
end Go.PD
namespace Go.Proofs.Ytogkodjlbdlgjaa
open Go.RowKit Go.PM Go.PD
attribute [local go_sem] Oper.semAt_some

set_option maxRecDepth 100000 in
set_option maxHeartbeats 1600000 in
theorem direct_iter (xs : List St) (v : Value) (b1 n : Nat) (hn : 1 ≤ n) (hK : ∀ k (hk : k < xs.length), far xs[k] = true → xs[k].1 = 0) (hl : xs.length ≤ 60) :
    IterQ (fun A => At A b1 23 #[v] ∧ RdS A v xs) Fence.wide n Try.prog 105 (fun y => #[] ++ #[y] ++ #[.pointer (some ⟨b1, 0, none⟩)]) (fun m : St => #[.agg #[.int .i64 m.1, .string m.2.1, .string m.2.2]]) (mkD xs) := by
  intro l J r0 W hJ hP hQ hY h0
  obtain ⟨⟨hA1, hx0⟩, hr0⟩ := hP _ _ _ h0
  have c1 : W.cell? ⟨b1, 0, none⟩ = some v := hA1.cell 0
  obtain ⟨A, cap, rfl, hn1, hc1, _⟩ := hx0.open
  have HD := Lib.hid (fun k a b W => direct_c k a b W)
  have HKK := Lib.hid hK
  clear hK
  refine callsIn_of_wp Try.func105 rfl trivial ?_ rfl
  simp only [Try.ntmps105, List.size_toArray, List.length_cons, List.length_nil, Nat.reduceAdd, Nat.reduceSub, Array.replicate_succ, Array.replicate_zero, List.push_toArray, List.append_toArray, List.nil_append, List.cons_append]
  clear hA1 hx0
  gi_wp2
  gi_loopw [4, 7] (fun _ iv wr => ∃ (k : Nat) (r : Option Nat), k ≤ xs.length ∧ iv = .int .i64 k ∧ J r (mkD (xs.take k)) wr ∧ W.heap.size ≤ wr.heap.size) (fun _ iv _ => xs.length - (RowKit.intOf iv).toNat)
  case atStart => exact ⟨0, r0, by omega, rfl, h0, Nat.le_refl _⟩
  case round =>
    clear c1
    obtain ⟨k, r, hk, rfl, hj, hsz⟩ := hrel
    by_cases hlt : k < xs.length
    · obtain ⟨⟨_, hxr⟩, hrr⟩ := hP _ _ _ hj
      obtain ⟨A', cap', e, _, _, hcell⟩ := hxr.open
      cases e
      obtain ⟨b, off, rfl, hbl, hd1, hd2, hd3⟩ := hcell k hlt
      clear hcell hxr
      have HE : Hid (xs[k] = (xs[k].1, xs[k].2.1, xs[k].2.2)) := rfl
      have HPX := Lib.hid (mkD_pre xs (k + 1))
      have HFA := Lib.hid (mkD_far xs k hlt HE.out)
      have HNE := Lib.hid (mkD_near xs k hlt HE.out)
      have HKF := Lib.hid (HKK.out k hlt)
      have hkind : far (xs[k].1, xs[k].2.1, xs[k].2.2) = true → xs[k].1 = 0 := HKF.out
      have HDD := Lib.hid (fun W => HD.out xs[k].1 xs[k].2.1 xs[k].2.2 W)
      generalize xs[k].1 = x1 at *
      generalize xs[k].2.1 = x2 at *
      generalize xs[k].2.2 = x3 at *
      obtain ⟨W1, hW1⟩ : ∃ W1 : World, W1 = wr.alloc (.cells #[.int .i64 x1, .string x2, .string x3] 67) := ⟨_, rfl⟩
      have hN1 : At W1 wr.heap.size 67 #[.int .i64 x1, .string x2, .string x3] := by rw [hW1]; exact At.new _ _ _
      have hB1 : Below wr.heap.size wr W1 := by rw [hW1]; exact (Below.refl _ _).alloc (Nat.le_refl _) _
      have hrw : some wr.heap.size ≠ r := fun e => by have := hrr _ e.symm; omega
      cases hf : far (x1, x2, x3) with
      | true =>
        obtain rfl := hkind hf
        rw [hf] at HDD
        have HFF := Lib.hid (HFA.out hf)
        clear HFA HNE hkind HKF
        gi_wp2_with fail
        rw [← hW1]
        refine ⟨trivial, callsIn_wide.2 ((HDD.out _).mono ?_)⟩
        rintro e W2 ⟨rfl, hb2⟩
        have hN2 := hN1.keep hb2
        have hB2 := hB1.trans (hb2.mono hB1.size)
        have hJ2 : J r (mkD (xs.take k)) W2 := hJ _ _ _ _ none hj (grown_below hB2 none) (fun r e => by cases e)
        have hs2 := Nat.le_trans hsz hB2.size
        have hl2 := hN2.lt
        have m1 : W2.cell? ⟨wr.heap.size, 1, none⟩ = some (.string x2) := hN2.cell 1
        have m2 : W2.cell? ⟨wr.heap.size, 2, none⟩ = some (.string x3) := hN2.cell 2
        have hpx : mkD (xs.take k) ++ [(0, spU, x3)] <+: mkD xs := by
          refine List.IsPrefix.trans ?_ HPX.out
          rw [HFF.out]; exact ⟨[(0, x2, spU)], rfl⟩
        obtain ⟨fn, tmps, assign, body, hy, hR⟩ := hY r _ (0, spU, x3) W2 hJ2 hs2 hpx
        clear hW1 hb2 hN1 hB1 hd1 hd2 hd3 hJ2 hj hB2
        gi_wp2
        refine hR.mono ?_
        rintro e W3 ⟨rfl, r', hJ3, hst⟩
        have hN3 : At W3 wr.heap.size 67 #[.int .i64 0, .string x2, .string x3] := (hst.same _ hsz hl2 hrw).trans hN2
        have hr3 : some wr.heap.size ≠ r' := fun e => by
          rcases hst.row with h | h
          · exact hrw (e.trans h)
          · have := h _ e.symm; omega
        have z2 : W3.frozen? ⟨wr.heap.size, 2, none⟩ = false := hN3.frozen 2
        have m3 : W3.cell? ⟨wr.heap.size, 2, none⟩ = some (.string x3) := hN3.cell 2
        have hs3 := Nat.le_trans hs2 hst.size
        have hN4 : At (W3.setCell ⟨wr.heap.size, 2, none⟩ (.string spU)) wr.heap.size 67 #[.int .i64 0, .string x2, .string spU] := by
          have := hN3.set 2 (.string spU); simpa using this
        have hJ4 : J r' (mkD (xs.take k) ++ [(0, spU, x3)]) (W3.setCell ⟨wr.heap.size, 2, none⟩ (.string spU)) := hQ _ _ _ _ _ hJ3 hsz hr3 (grown_cellQ _ _ _ _)
        have hs4 : W.heap.size ≤ (W3.setCell ⟨wr.heap.size, 2, none⟩ (.string spU)).heap.size := by simp [World.size_setCell]; exact hs3
        have c0 : (W3.setCell ⟨wr.heap.size, 2, none⟩ (.string spU)).cell? ⟨wr.heap.size, 0, none⟩ = some (.int .i64 0) := hN4.cell 0
        have c1 : (W3.setCell ⟨wr.heap.size, 2, none⟩ (.string spU)).cell? ⟨wr.heap.size, 1, none⟩ = some (.string x2) := hN4.cell 1
        have c2 : (W3.setCell ⟨wr.heap.size, 2, none⟩ (.string spU)).cell? ⟨wr.heap.size, 2, none⟩ = some (.string spU) := hN4.cell 2
        have hpx2 : (mkD (xs.take k) ++ [(0, spU, x3)]) ++ [(0, x2, spU)] <+: mkD xs := by rw [← HFF.out]; exact HPX.out
        obtain ⟨fn', tmps', assign', body', hy', hR'⟩ := hY r' _ (0, x2, spU) _ hJ4 hs4 hpx2
        clear hR hy hst hJ3 hN3 hN2 hJ4 m1 m2
        gi_wp2
        refine hR'.mono ?_
        rintro e W5 ⟨rfl, r5, hJ5, hst5⟩
        have hs5 := Nat.le_trans hs4 hst5.size
        clear hR' hy' hst5 c0 c1 c2 hN4 m3 z2
        gi_wp2
        go_roundw
        case rel => exact ⟨k + 1, r5, by omega, by go_num, by rw [HFF.out]; exact hJ5, hs5⟩
        case measure => simp [RowKit.intOf]; omega
      | false =>
        rw [hf] at HDD
        have HFF := Lib.hid (HNE.out hf)
        clear HFA HNE hkind HKF
        gi_wp2_with fail
        rw [← hW1]
        refine ⟨trivial, callsIn_wide.2 ((HDD.out _).mono ?_)⟩
        rintro e W2 ⟨rfl, hb2⟩
        have hN2 := hN1.keep hb2
        have hB2 := hB1.trans (hb2.mono hB1.size)
        have hJ2 : J r (mkD (xs.take k)) W2 := hJ _ _ _ _ none hj (grown_below hB2 none) (fun r e => by cases e)
        have hs2 := Nat.le_trans hsz hB2.size
        have hl2 := hN2.lt
        have c0 : W2.cell? ⟨wr.heap.size, 0, none⟩ = some (.int .i64 x1) := hN2.cell 0
        have c1 : W2.cell? ⟨wr.heap.size, 1, none⟩ = some (.string x2) := hN2.cell 1
        have c2 : W2.cell? ⟨wr.heap.size, 2, none⟩ = some (.string x3) := hN2.cell 2
        have hpx : mkD (xs.take k) ++ [(x1, x2, x3)] <+: mkD xs := by rw [← HFF.out]; exact HPX.out
        obtain ⟨fn, tmps, assign, body, hy, hR⟩ := hY r _ (x1, x2, x3) W2 hJ2 hs2 hpx
        clear hW1 hb2 hN1 hB1 hd1 hd2 hd3 hJ2 hj hB2
        gi_wp2
        refine hR.mono ?_
        rintro e W5 ⟨rfl, r5, hJ5, hst5⟩
        have hs5 := Nat.le_trans hs2 hst5.size
        clear hR hy hst5 c0 c1 c2 hN2
        gi_wp2
        go_roundw
        case rel => exact ⟨k + 1, r5, by omega, by go_num, by rw [HFF.out]; exact hJ5, hs5⟩
        case measure => simp [RowKit.intOf]; omega
    · have hk' : k = xs.length := by omega
      have hdone : J r (mkD xs) wr := by rw [hk', List.take_length] at hj; exact hj
      clear hj
      gi_wp2
      go_end0
      exact ⟨⟨_, rfl⟩, r, hdone⟩
end Go.Proofs.Ytogkodjlbdlgjaa
