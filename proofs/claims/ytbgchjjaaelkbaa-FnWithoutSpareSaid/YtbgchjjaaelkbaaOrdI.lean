import Derived.Test.YtbgchjjaaelkbaaTakI
import Derived.Stop.RegionWithIn
namespace Go.PM
open Go.RowKit
theorem leastK_ex {P : Nat → Prop} : ∀ n, P n → ∃ m, P m ∧ ∀ k, P k → m ≤ k := by
  intro n
  induction n using Nat.strongRecOn with
  | ind n ih =>
    intro h
    by_cases h2 : ∃ m, m < n ∧ P m
    · obtain ⟨m, h3, h4⟩ := h2; exact ih m h3 h4
    · exact ⟨n, h, fun k hk => Nat.le_of_not_lt fun hlt => h2 ⟨k, hlt, hk⟩⟩
open Classical in
/-- the least number of which P holds -/
noncomputable def leastK (P : Nat → Prop) : Nat := if h : ∃ m, P m ∧ ∀ k, P k → m ≤ k then Classical.choose h else 0
theorem leastK_spec {P : Nat → Prop} (h : ∃ n, P n) : P (leastK P) ∧ ∀ k, P k → leastK P ≤ k := by
  obtain ⟨n, hn⟩ := h
  have hx := leastK_ex n hn
  unfold leastK
  rw [dif_pos hx]
  exact Classical.choose_spec hx
/-- what the ordering holds at the head of a round: k steps are enough for what waits -/
def OrdR (B : Nat) (e : TypeId) (v : Value) (xs : List Mv) (J : Option Nat → List Mv → World → Prop) (k : Nat) (wv : Value) (A : World) : Prop :=
  ∃ (pre ws : List Mv) (r : Option Nat), pre ++ ordF k ws = ordF 19 xs ∧ Wt ws ∧ muW ws ≤ k ∧ ws.length ≤ 9 ∧ J r pre A ∧ HeldW B e v xs r A wv ws ∧ B ≤ A.heap.size
end Go.PM
namespace Go.Proofs.Ytbgchjjaaelkbaa
open Go.RowKit Go.PM

set_option maxRecDepth 100000 in
set_option maxHeartbeats 3200000 in
theorem order_iter (xs : List Mv) (v : Value) (b1 n : Nat) (hn : 1 ≤ n) (hW : Wt xs) (hl : xs.length ≤ 9) :
    IterR (fun A => At A b1 23 #[v] ∧ RdM A v xs) Fence.wide n Try.prog 142 (fun y => #[] ++ #[y] ++ #[.pointer (some ⟨b1, 0, none⟩)]) (fun m : Mv => #[.agg #[.int .i64 0, .string m.1, .string m.2]]) (ordF 19 xs) := by
  intro l J r0 W hJ hP hY h0
  obtain ⟨⟨hA1, hx0⟩, hr0⟩ := hP _ _ _ h0
  have c1 : W.cell? ⟨b1, 0, none⟩ = some v := hA1.cell 0
  have HF := Lib.hid (fun ws wv A hx hl hp => firstAhead_c ws wv A hx (by omega : ws.length ≤ 1048576) hp)
  have HWO := Lib.hid (fun ws wv i hi A hx hl => without_c ws wv i hi A hx (by omega : ws.length ≤ 1048576))
  have HRE := Lib.hid (fun ws wv d A hx hl => redirected_c ws wv d A hx (by omega : ws.length ≤ 1048576))
  refine callsIn_of_wp Try.func142 rfl trivial ?_ rfl
  simp only [Try.ntmps142, List.size_toArray, List.length_cons, List.length_nil, Nat.reduceAdd, Nat.reduceSub, Array.replicate_succ, Array.replicate_zero, List.push_toArray, List.append_toArray, List.nil_append, List.cons_append]
  gi_wp2
  gi_loopw [3, 4, 5, 6] (fun wv _ _ _ wr => ∃ k, OrdR W.heap.size 33 v xs J k wv wr) (fun wv _ _ _ wr => leastK (fun k => OrdR W.heap.size 33 v xs J k wv wr))
  case atStart =>
    have : muW xs ≤ 19 := by unfold muW; split <;> omega
    exact ⟨19, [], xs, r0, rfl, hW, this, hl, h0, .inl ⟨rfl, rfl⟩, Nat.le_refl _⟩
  case round =>
    obtain ⟨hru, _⟩ := leastK_spec hrel
    generalize hkk : leastK (fun k => OrdR W.heap.size 33 v xs J k u3 wr) = kk at *
    have HKK := Lib.hid hkk
    clear hrel hkk
    obtain ⟨pre, ws, r, hpr, hwt, hmu, h9, hj, hh, hsz⟩ := hru
    obtain ⟨⟨_, hxr⟩, hrr⟩ := hP _ _ _ hj
    have hrd := hh.rd hxr
    obtain ⟨A, cap, rfl, hn1, hc1, hcell⟩ := hrd.open
    by_cases h0 : 0 < ws.length
    · obtain ⟨k, rfl⟩ : ∃ k', kk = k' + 1 := ⟨kk - 1, by unfold muW at hmu; omega⟩
      obtain ⟨b, off, rfl, hbl, d1', d2'⟩ := hcell 0 h0
      have hcs : ∀ q (hq : q < ws.length), wr.cell? ⟨b, off + q * 2, none⟩ = some (.string ws[q].1) ∧ wr.cell? ⟨b, off + q * 2 + 1, none⟩ = some (.string ws[q].2) := fun q hq => by
        obtain ⟨b', off', e, _, q1, q2⟩ := hcell q hq
        cases e; exact ⟨q1, q2⟩
      have d1 : wr.cell? ⟨b, off, none⟩ = some (.string ws[0].1) := by simpa using d1'
      have i00 : (0 : Int) < (ws.length : Int) := by omega
      clear d1' d2' hcell
      have hbw : Below wr.heap.size wr (wr.alloc (.cells #[.string spT, .string ws[0].1] 33)) := (Below.refl _ _).alloc (Nat.le_refl _) _
      have hfa := HF.out ws _ _ (hrd.below hbw) (by omega) hwt.to_
      have hNw : At (wr.alloc (.cells #[.string spT, .string ws[0].1] 33)) wr.heap.size 33 #[.string spT, .string ws[0].1] := At.new _ _ _
      have HSP : Hid (spT = ⟨#[116]⟩) := rfl
      rcases aheadZ_lt ws with hz | ⟨i, hi, hz, ha⟩
      · have ha := aheadI_of_neg hz
        have hof := ordF_none (n := k) h0 ha
        have hpx : pre ++ [(spT, ws[0].1)] <+: ordF 19 xs := by
          rw [← hpr, hof]; exact ⟨ordF k (redM (spT, ws[0].1) ws), by simp⟩
        have hnx : Hid ((pre ++ [(spT, ws[0].1)]) ++ ordF k (redM (spT, ws[0].1) ws) = ordF 19 xs ∧ Wt (redM (spT, ws[0].1) ws) ∧ muW (redM (spT, ws[0].1) ws) ≤ k ∧ (redM (spT, ws[0].1) ws).length ≤ 9) :=
          ⟨by rw [← hpr, hof]; simp, (hwt.none_ h0 ha).1, by have := muW_none hwt h0 ha; omega, by rw [redM_len]; exact h9⟩
        rw [hz] at hfa
        clear hz hof hpr ha hcs
        generalize ws[0].1 = x1 at *
        generalize spT = sp at *
        have hsp := HSP.out
        subst hsp
        gi_wp2_with fail
        refine ⟨trivial, callsIn_wide.2 (hfa.mono ?_)⟩
        rintro e W2 ⟨rfl, hb2⟩
        have hbw2 := hbw.trans (hb2.mono (by simp))
        have hJ2 : J r pre W2 := hJ _ _ _ _ none hj (grown_below hbw2 none) (fun r e => by cases e)
        have hh2 := hh.below hbw2
        have hN2 := hNw.keep hb2
        have hs2 := Nat.le_trans hsz hbw2.size
        clear hb2 hbw hNw hj hh hrd hxr d1 hbl hfa
        -- the step is handed out; what is left is redirected
        have hyl := hY r pre ((⟨#[116]⟩ : ByteArray), x1) W2 hJ2 hs2 hpx
        obtain ⟨fn, tmps, assign, body, hy, hR⟩ := hyl
        have n1 : W2.cell? ⟨wr.heap.size, 0, none⟩ = some (.string (⟨#[116]⟩ : ByteArray)) := hN2.cell 0
        have n2 : W2.cell? ⟨wr.heap.size, 1, none⟩ = some (.string x1) := hN2.cell 1
        gi_wp2
        refine hR.mono ?_
        rintro e W3 ⟨rfl, r', hJ3, hst⟩
        have hh3 := hh2.step hst
        have hs3 := Nat.le_trans hs2 hst.size
        obtain ⟨⟨_, hx3⟩, hr3⟩ := hP _ _ _ hJ3
        have hrd3 := hh3.rd hx3
        have hN3 : At W3 wr.heap.size 33 #[.string (⟨#[116]⟩ : ByteArray), .string x1] := (hst.same _ hsz hN2.lt (fun e => by have := hrr _ e.symm; omega)).trans hN2
        have m1 : W3.cell? ⟨wr.heap.size, 0, none⟩ = some (.string (⟨#[116]⟩ : ByteArray)) := hN3.cell 0
        have m2 : W3.cell? ⟨wr.heap.size, 1, none⟩ = some (.string x1) := hN3.cell 1
        clear n1 n2 hN2 hh2 hJ2 hst hR hy
        gi_wp2_with fail
        refine ⟨trivial, callsIn_wide.2 ((HRE.out _ _ ((⟨#[116]⟩ : ByteArray), x1) W3 hrd3 (by omega)).mono ?_)⟩
        rintro e W4 ⟨v4, rfl, ho4, hb4⟩
        have hh4 : HeldW W.heap.size 33 v xs r' W4 v4 _ := HeldW.new ho4 hs3 hr3
        have hJ4 : J r' (pre ++ [((⟨#[116]⟩ : ByteArray), x1)]) W4 := hJ _ _ _ _ none hJ3 (grown_below hb4 none) (fun r e => by cases e)
        have hs4 := Nat.le_trans hs3 hb4.size
        have hOR : OrdR W.heap.size 33 v xs J k v4 W4 := ⟨_, _, r', hnx.out.1, hnx.out.2.1, hnx.out.2.2.1, hnx.out.2.2.2, hJ4, hh4, hs4⟩
        clear hN3 m1 m2 hrd3 hx3 hr3 hh3 hJ3 hh4 hJ4 ho4 hb4
        gi_wp2
        go_roundw
        case rel => exact ⟨k, hOR⟩
        case measure =>
          rw [HKK.out]
          have := (leastK_spec (P := fun k => OrdR W.heap.size 33 v xs J k v4 W4) ⟨k, hOR⟩).2 _ hOR
          omega
      · have hof := ordF_some (n := k) hi ha
        have hpx : pre ++ [ws[i]] <+: ordF 19 xs := by
          rw [← hpr, hof]; exact ⟨ordF k (redM ws[i] (ws.eraseIdx i)), by simp⟩
        have hnx : Hid ((pre ++ [ws[i]]) ++ ordF k (redM ws[i] (ws.eraseIdx i)) = ordF 19 xs ∧ Wt (redM ws[i] (ws.eraseIdx i)) ∧ muW (redM ws[i] (ws.eraseIdx i)) ≤ k ∧ (redM ws[i] (ws.eraseIdx i)).length ≤ 9) :=
          ⟨by rw [← hpr, hof]; simp, hwt.some_ hi (aheadI_some ha).2, by have := muW_some hi ws[i]; omega, by rw [redM_len, List.length_eraseIdx_of_lt hi]; omega⟩
        have hlen2 : (ws.eraseIdx i).length ≤ 9 := by rw [List.length_eraseIdx_of_lt hi]; omega
        rw [hz] at hfa
        have hci := hcs i hi
        have i0 : (0 : Int) ≤ (i : Int) := by omega
        have i1 : (i : Int) < (ws.length : Int) := by omega
        have HWW := Lib.hid (fun A hx hl => HWO.out ws (.slice (some ⟨b, off, none⟩) ws.length cap) i hi A hx hl)
        clear hz hof hpr ha hcs
        generalize ws.eraseIdx i = ws2 at *
        rw [show ws[i] = (ws[i].1, ws[i].2) from rfl] at hpx hnx
        generalize ws[0].1 = x0 at *
        generalize ws[i].1 = y1 at *
        generalize ws[i].2 = y2 at *
        generalize spT = sp at *
        have hsp := HSP.out
        subst hsp
        gi_wp2_with fail
        refine ⟨trivial, callsIn_wide.2 (hfa.mono ?_)⟩
        rintro e W2 ⟨rfl, hb2⟩
        have hbw2 := hbw.trans (hb2.mono (by simp))
        have hN2 := hNw.keep hb2
        have hs2 := Nat.le_trans hsz hbw2.size
        have e1 := (hbw2.cell (p := ⟨b, off + i * 2, none⟩) hbl).trans hci.1
        have e2 := (hbw2.cell (p := ⟨b, off + i * 2 + 1, none⟩) hbl).trans hci.2
        have hrd2 := hrd.below hbw2
        clear hb2 hbw hNw d1 hfa hci
        gi_wp2
        have i0' : (0 : Int) ≤ (i : Int) := i0
        have hc4 := HWW.out W2.drew hrd2 (by omega)
        have HC4 := Lib.hid hc4
        clear hc4
        have e1d : W2.drew.cell? ⟨b, off + i * 2, none⟩ = some (.string y1) := e1
        have e2d : W2.drew.cell? ⟨b, off + i * 2 + 1, none⟩ = some (.string y2) := e2
        have hblw : b < W2.heap.size := Nat.lt_of_lt_of_le hbl hbw2.size
        gi_region_with (refine ⟨trivial, (callsIn_wide.2 HC4.out).mono ?_⟩; rintro e W5 ⟨v5, rfl, ho5, hb5⟩; have e1e := (hb5.cell (p := ⟨b, off + i * 2, none⟩) hblw).trans e1d; have e2e := (hb5.cell (p := ⟨b, off + i * 2 + 1, none⟩) hblw).trans e2d; have hN5 : At _ wr.heap.size 33 #[.string ⟨#[116]⟩, .string x0] := At.keep (w := W2.drew) hN2 hb5; have n1e := hN5.cell 0; have n2e := hN5.cell 1; have z1e := hN5.frozen 0; have z2e := hN5.frozen 1; simp only [List.getElem?_toArray, List.getElem?_cons_zero, List.getElem?_cons_succ] at n1e n2e)
        all_goals
          have hge5 := own_block_ge ho5
          have hs5 := hb5.size
          have hdz : W2.drew.heap.size = W2.heap.size := rfl
          have hlw : wr.heap.size < W2.heap.size := hN2.lt
          obtain ⟨W6, hW6⟩ : ∃ W6, W6 = (W5.setCell ⟨wr.heap.size, 0, none⟩ (.string y1)).setCell ⟨wr.heap.size, 1, none⟩ (.string y2) := ⟨_, rfl⟩
          have hN6 : At W6 wr.heap.size 33 #[.string y1, .string y2] := by
            rw [hW6]; have := (hN5.set 0 (.string y1)).set 1 (.string y2); simpa using this
          have hbw5 : Below wr.heap.size wr W5 := hbw2.drew.trans (hb5.mono (by omega))
          have hbw6 : Below wr.heap.size wr W6 := by rw [hW6]; exact (hbw5.setCell (by simp) _).setCell (by simp) _
          have hJ6 : J r pre W6 := hJ _ _ _ _ none hj (grown_below hbw6 none) (fun r e => by cases e)
          have hs6 := Nat.le_trans hsz hbw6.size
          have hown6 : W6.ownsRow W2.heap.size 33 2 v5 ws2.length (mcells ws2) := by
            have hne : v5.ownBlock ≠ some wr.heap.size := fun e => by have := hge5 _ e; omega
            rw [hW6]
            exact own_grown (own_grown ho5 (grown_cell W5 ⟨wr.heap.size, 0, none⟩ _) (.inl hne)) (grown_cell _ ⟨wr.heap.size, 1, none⟩ _) (.inl hne)
          have hh6 : HeldW W.heap.size 33 v xs r W6 v5 ws2 := HeldW.new hown6 hs2 (fun g e => by have := hrr g e; omega)
          rw [← hW6]
          clear hge5 hN5 n1e n2e z1e z2e e1e e2e e1d e2d e1 e2 hown6 hbw5 hbw6 hb5 ho5 HC4 HWW hrd2 hN2 hW6 hj hh hrd hxr
          -- the step is handed out; what is left is redirected
          have hyl := hY r pre (y1, y2) W6 hJ6 hs6 hpx
          obtain ⟨fn, tmps, assign, body, hy, hR⟩ := hyl
          have n1 : W6.cell? ⟨wr.heap.size, 0, none⟩ = some (.string y1) := hN6.cell 0
          have n2 : W6.cell? ⟨wr.heap.size, 1, none⟩ = some (.string y2) := hN6.cell 1
          gi_wp2
          refine hR.mono ?_
          rintro e W3 ⟨rfl, r', hJ3, hst⟩
          have hh3 := hh6.step hst
          have hs3 := Nat.le_trans hs6 hst.size
          obtain ⟨⟨_, hx3⟩, hr3⟩ := hP _ _ _ hJ3
          have hrd3 := hh3.rd hx3
          have hN3 : At W3 wr.heap.size 33 #[.string y1, .string y2] := (hst.same _ hsz hN6.lt (fun e => by have := hrr _ e.symm; omega)).trans hN6
          have m1 : W3.cell? ⟨wr.heap.size, 0, none⟩ = some (.string y1) := hN3.cell 0
          have m2 : W3.cell? ⟨wr.heap.size, 1, none⟩ = some (.string y2) := hN3.cell 1
          clear n1 n2 hN6 hh6 hJ6 hst hR hy
          gi_wp2_with fail
          refine ⟨trivial, callsIn_wide.2 ((HRE.out _ _ (y1, y2) W3 hrd3 (by omega)).mono ?_)⟩
          rintro e W4 ⟨v4, rfl, ho4, hb4⟩
          have hh4 : HeldW W.heap.size 33 v xs r' W4 v4 _ := HeldW.new ho4 hs3 hr3
          have hJ4 : J r' (pre ++ [(y1, y2)]) W4 := hJ _ _ _ _ none hJ3 (grown_below hb4 none) (fun r e => by cases e)
          have hs4 := Nat.le_trans hs3 hb4.size
          have hOR : OrdR W.heap.size 33 v xs J k v4 W4 := ⟨_, _, r', hnx.out.1, hnx.out.2.1, hnx.out.2.2.1, hnx.out.2.2.2, hJ4, hh4, hs4⟩
          clear hN3 m1 m2 hrd3 hx3 hr3 hh3 hJ3 hh4 hJ4 ho4 hb4
          gi_wp2
          go_roundw
          case rel => exact ⟨k, hOR⟩
          case measure =>
            rw [HKK.out]
            have := (leastK_spec (P := fun k => OrdR W.heap.size 33 v xs J k v4 W4) ⟨k, hOR⟩).2 _ hOR
            omega
    · have : ws = [] := List.length_eq_zero_iff.1 (by omega)
      subst this
      have hdone : J r (ordF 19 xs) wr := by
        rw [ordF_nil, List.append_nil] at hpr
        rw [← hpr]; exact hj
      gi_wp2
      go_end0
      exact ⟨⟨_, rfl⟩, r, hdone⟩
end Go.Proofs.Ytbgchjjaaelkbaa
