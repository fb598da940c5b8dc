import Derived.Test.YtfedloljhocpgaaGreatDoorIm1
namespace Go.Proofs.YtfedloljhocpgaaGreatDoor
open Go.RowKit Go.PM Go.Lib

def TabFor (xs : List Mv) (g : Nat → ByteArray) : Prop := ∀ p, p < 9 → g p = if mvalid xs then tabOf xs p else emp
theorem tabX_congr {f g : Nat → ByteArray} (h : ∀ p, p < 9 → f p = g p) : tabX f = tabX g := by
  unfold tabX
  rw [h 0 (by omega), h 1 (by omega), h 2 (by omega), h 3 (by omega), h 4 (by omega), h 5 (by omega), h 6 (by omega), h 7 (by omega), h 8 (by omega)]

theorem results_tab (W : World) (b : Nat) (g : Nat → ByteArray) (x : Bool) (hA : At W b 65 (tabA g)) (tmps : Array Value) (h2 : tmps.getD 2 undef = .pointer (some ⟨b, 0, none⟩)) (h3 : tmps.getD 3 undef = .bool x) :
    (results Tryz.f42 tmps).run Tryz.prog W = .ok (.tuple #[tabX g, .bool x]) W := by
  have q0 := hA.cell 0
  have q1 := hA.cell 1
  have q2 := hA.cell 2
  have q3 := hA.cell 3
  have q4 := hA.cell 4
  have q5 := hA.cell 5
  have q6 := hA.cell 6
  have q7 := hA.cell 7
  have q8 := hA.cell 8
  simp only [tabA] at q0 q1 q2 q3 q4 q5 q6 q7 q8
  simp at q0 q1 q2 q3 q4 q5 q6 q7 q8
  simp only [Array.getD_eq_getD_getElem?] at h2 h3
  simp [results, Tryz.results42, go_sem, h2, h3, q0, q1, q2, q3, q4, q5, q6, q7, q8]
set_option maxRecDepth 100000 in
set_option maxHeartbeats 1600000 in
theorem tableOf_c (xs : List Mv) (v : Value) (w : World) (hx : RdM w v xs) :
    Calls Tryz.prog 42 #[v] w fun e w' => (∃ g, e = .returned (.tuple #[tabX g, .bool (mvalid xs)]) ∧ TabFor xs g) ∧ Below w.heap.size w w' := by
  obtain ⟨A, cap, rfl, hn, hc, hcell⟩ := hx.open
  go_enter Tryz.func42, Tryz.ntmps42
  go_wp2
  have hw0 : ∃ W0 : World, W0 = (w.alloc (Obj.cells (zA) 65)).alloc (Obj.cells (zA) 65) := ⟨_, rfl⟩
  obtain ⟨W0, hW0⟩ := hw0
  have hB0 : Below w.heap.size w W0 := by rw [hW0]; (repeat' (first | (with_reducible exact Below.refl _ _) | (with_reducible assumption) | (with_reducible refine Below.alloc ?_ ?_ _) | (with_reducible refine Below.drew ?_) | (with_reducible refine Below.setCell ?_ ?_ _) | (with_reducible exact Nat.le_refl _) | omega | ((repeat (first | rewrite [World.size_alloc] | rewrite [World.size_setCell] | rewrite [World.size_drew])); omega) | (simp; omega) | (simp; done)))
  have hA0 : At W0 w.heap.size 65 (zA) := by rw [hW0]; exact (At.new _ _ _).alloc _
  have hA1 : At W0 (w.heap.size + 1) 65 (zA) := by
    rw [hW0]; have := At.new (w.alloc (Obj.cells (zA) 65)) 65 (zA)
    rwa [World.size_alloc] at this
  rw [← show W0 = _ from hW0]
  clear hW0
  go_loopw [6, 7, 8, 11] (fun _ _ _ i wr => ∃ (k : Nat) (g : Nat → ByteArray), k ≤ xs.length ∧ i = .int .i64 k ∧ Below w.heap.size w wr ∧ At wr w.heap.size 65 (zA) ∧ At wr (w.heap.size + 1) 65 (tabA g) ∧ Hid (MV (xs.take k) ∧ ∀ p, p < 9 → g p = tabOf (xs.take k) p)) (fun _ _ _ i _ => xs.length - (RowKit.intOf i).toNat)
  case atStart => exact ⟨0, fun _ => emp, by omega, rfl, hB0, hA0, hA1, by simpa using MV_nil, fun p _ => rfl⟩
  case round =>
    obtain ⟨k, g, hk, rfl, hb, hA2, hA4, hm⟩ := hrel
    have hbs := hb.size
    have hlt4 := hA4.lt
    by_cases hlt : k < xs.length
    · obtain ⟨b, off, rfl, hbl, hc1, hc2⟩ := hcell k hlt
      have hd1 := (hb.cell (p := ⟨b, off + k * 2, none⟩) hbl).trans hc1
      have hd2 := (hb.cell (p := ⟨b, off + k * 2 + 1, none⟩) hbl).trans hc2
      clear hc1 hc2 hcell
      have hst := MV_step k hlt
      have htb := tabOf_snoc (xs.take k) xs[k]
      rw [← take_snoc xs k hlt] at htb
      have hpre : MV xs → MV (xs.take (k+1)) := fun h => MV_take h _
      generalize hxa : xs[k].1 = a at *
      generalize hxb : xs[k].2 = b2 at *
      have HPRE := Lib.hid hpre
      have HIF : Hid (MV (xs.take (k+1)) ↔ isP a = true ∧ g (pidx a) = emp ∧ isS b2 = true) := by
        show _ ↔ _
        rw [hst]; unfold mok; rw [hxa, hxb, Bool.and_eq_true]
        constructor
        · rintro ⟨h1, ⟨h2, h3⟩, h4⟩
          refine ⟨h2, ?_, h3⟩
          rw [hm.out.2 _ (pidx_spec h2).1, tabOf_emp h1, (pidx_spec h2).2]; exact h4
        · rintro ⟨h1, h2, h3⟩
          refine ⟨hm.out.1, ⟨h1, h3⟩, ?_⟩
          rw [hm.out.2 _ (pidx_spec h1).1, tabOf_emp hm.out.1, (pidx_spec h1).2] at h2
          exact h2
      have HTB := Lib.hid htb
      have HMV : Hid (MV (xs.take (k+1)) → a ∉ (xs.take k).map (·.1)) := fun h => (hst.1 h).2.2
      clear hpre hst htb hxa hxb
      have q0 : wr.cell? ⟨w.heap.size + 1, 0, none⟩ = some (.string (g 0)) := hA4.cell 0
      have q1 : wr.cell? ⟨w.heap.size + 1, 1, none⟩ = some (.string (g 1)) := hA4.cell 1
      have q2 : wr.cell? ⟨w.heap.size + 1, 2, none⟩ = some (.string (g 2)) := hA4.cell 2
      have q3 : wr.cell? ⟨w.heap.size + 1, 3, none⟩ = some (.string (g 3)) := hA4.cell 3
      have q4 : wr.cell? ⟨w.heap.size + 1, 4, none⟩ = some (.string (g 4)) := hA4.cell 4
      have q5 : wr.cell? ⟨w.heap.size + 1, 5, none⟩ = some (.string (g 5)) := hA4.cell 5
      have q6 : wr.cell? ⟨w.heap.size + 1, 6, none⟩ = some (.string (g 6)) := hA4.cell 6
      have q7 : wr.cell? ⟨w.heap.size + 1, 7, none⟩ = some (.string (g 7)) := hA4.cell 7
      have q8 : wr.cell? ⟨w.heap.size + 1, 8, none⟩ = some (.string (g 8)) := hA4.cell 8
      by_cases hstep : isP a = true ∧ g (pidx a) = emp ∧ isS b2 = true
      · obtain ⟨s1, s2, s3⟩ := hstep
        have HN : Hid (MV (xs.take (k+1)) ∧ ∀ p, p < 9 → upd g (pidx a) b2 p = tabOf (xs.take (k+1)) p) := by
          have h1 := HIF.out.2 ⟨s1, s2, s3⟩
          refine ⟨h1, fun p hp => ?_⟩
          rw [HTB.out s1 (HMV.out h1) p hp]
          unfold upd
          split
          · rfl
          · exact hm.out.2 p hp
        have S2 := Lib.hid s2
        clear s2
        go_wp2_with fail
        refine (with_yes g a b2 s1 S2.out s3 _).mono ?_
        rintro e w1 ⟨rfl, hb1⟩
        generalize upd g (pidx a) b2 = g2 at *
        have hA4' := (hA4.alloc (.cells #[.string a, .string b2] 56)).keep hb1
        have hA2' := (hA2.alloc (.cells #[.string a, .string b2] 56)).keep hb1
        have hsz := hb1.size
        simp only [World.size_alloc] at hsz
        have hW1 : Below w.heap.size w w1 := (hb.alloc hbs _).trans (hb1.mono (by simp; omega))
        have hlt5 : w.heap.size + 1 < w1.heap.size := by omega
        have hlt6 : w.heap.size < w1.heap.size := by omega
        clear q0 q1 q2 q3 q4 q5 q6 q7 q8 hd1 hd2
        have q0 : w1.cell? ⟨w.heap.size + 1, 0, none⟩ = some (.string (g 0)) := hA4'.cell 0
        have q1 : w1.cell? ⟨w.heap.size + 1, 1, none⟩ = some (.string (g 1)) := hA4'.cell 1
        have q2 : w1.cell? ⟨w.heap.size + 1, 2, none⟩ = some (.string (g 2)) := hA4'.cell 2
        have q3 : w1.cell? ⟨w.heap.size + 1, 3, none⟩ = some (.string (g 3)) := hA4'.cell 3
        have q4 : w1.cell? ⟨w.heap.size + 1, 4, none⟩ = some (.string (g 4)) := hA4'.cell 4
        have q5 : w1.cell? ⟨w.heap.size + 1, 5, none⟩ = some (.string (g 5)) := hA4'.cell 5
        have q6 : w1.cell? ⟨w.heap.size + 1, 6, none⟩ = some (.string (g 6)) := hA4'.cell 6
        have q7 : w1.cell? ⟨w.heap.size + 1, 7, none⟩ = some (.string (g 7)) := hA4'.cell 7
        have q8 : w1.cell? ⟨w.heap.size + 1, 8, none⟩ = some (.string (g 8)) := hA4'.cell 8
        have z0 : w1.frozen? ⟨w.heap.size + 1, 0, none⟩ = false := hA4'.frozen 0
        have z1 : w1.frozen? ⟨w.heap.size + 1, 1, none⟩ = false := hA4'.frozen 1
        have z2 : w1.frozen? ⟨w.heap.size + 1, 2, none⟩ = false := hA4'.frozen 2
        have z3 : w1.frozen? ⟨w.heap.size + 1, 3, none⟩ = false := hA4'.frozen 3
        have z4 : w1.frozen? ⟨w.heap.size + 1, 4, none⟩ = false := hA4'.frozen 4
        have z5 : w1.frozen? ⟨w.heap.size + 1, 5, none⟩ = false := hA4'.frozen 5
        have z6 : w1.frozen? ⟨w.heap.size + 1, 6, none⟩ = false := hA4'.frozen 6
        have z7 : w1.frozen? ⟨w.heap.size + 1, 7, none⟩ = false := hA4'.frozen 7
        have z8 : w1.frozen? ⟨w.heap.size + 1, 8, none⟩ = false := hA4'.frozen 8
        go_wp2
        go_roundw
        case rel =>
          refine ⟨k + 1, g2, by omega, by go_num, ?_, ?_, ?_, HN⟩
          · (repeat' (first | (with_reducible exact Below.refl _ _) | (with_reducible assumption) | (with_reducible refine Below.alloc ?_ ?_ _) | (with_reducible refine Below.drew ?_) | (with_reducible refine Below.setCell ?_ ?_ _) | (with_reducible exact Nat.le_refl _) | omega | ((repeat (first | rewrite [World.size_alloc] | rewrite [World.size_setCell] | rewrite [World.size_drew])); omega) | (simp; omega) | (simp; done)))
          · refine At.alloc ?_ _
            repeat refine At.far ?_ (by simp) _
            exact hA2'
          · refine At.alloc ?_ _
            exact At.set9 g2 hA4'
        case measure => simp [RowKit.intOf]; omega
      · go_wp2_with fail
        refine (with_no g a b2 hstep _).mono ?_
        rintro e w1 ⟨rfl, hb1⟩
        have hA2' := (hA2.alloc (.cells #[.string a, .string b2] 56)).keep hb1
        have hsz := hb1.size
        simp only [World.size_alloc] at hsz
        have hW1 : Below w.heap.size w w1 := (hb.alloc hbs _).trans (hb1.mono (by simp; omega))
        have hlt6 : w.heap.size < w1.heap.size := by omega
        have HF : Hid (mvalid xs = false) := by
          show _ = _
          simp only [mvalid, decide_eq_false_iff_not]
          exact fun h => hstep (HIF.out.1 (HPRE.out h))
        clear q0 q1 q2 q3 q4 q5 q6 q7 q8 hd1 hd2 hstep
        have q0 : w1.cell? ⟨w.heap.size, 0, none⟩ = some (.string ⟨#[]⟩) := hA2'.cell 0
        have q1 : w1.cell? ⟨w.heap.size, 1, none⟩ = some (.string ⟨#[]⟩) := hA2'.cell 1
        have q2 : w1.cell? ⟨w.heap.size, 2, none⟩ = some (.string ⟨#[]⟩) := hA2'.cell 2
        have q3 : w1.cell? ⟨w.heap.size, 3, none⟩ = some (.string ⟨#[]⟩) := hA2'.cell 3
        have q4 : w1.cell? ⟨w.heap.size, 4, none⟩ = some (.string ⟨#[]⟩) := hA2'.cell 4
        have q5 : w1.cell? ⟨w.heap.size, 5, none⟩ = some (.string ⟨#[]⟩) := hA2'.cell 5
        have q6 : w1.cell? ⟨w.heap.size, 6, none⟩ = some (.string ⟨#[]⟩) := hA2'.cell 6
        have q7 : w1.cell? ⟨w.heap.size, 7, none⟩ = some (.string ⟨#[]⟩) := hA2'.cell 7
        have q8 : w1.cell? ⟨w.heap.size, 8, none⟩ = some (.string ⟨#[]⟩) := hA2'.cell 8
        have z0 : w1.frozen? ⟨w.heap.size, 0, none⟩ = false := hA2'.frozen 0
        have z1 : w1.frozen? ⟨w.heap.size, 1, none⟩ = false := hA2'.frozen 1
        have z2 : w1.frozen? ⟨w.heap.size, 2, none⟩ = false := hA2'.frozen 2
        have z3 : w1.frozen? ⟨w.heap.size, 3, none⟩ = false := hA2'.frozen 3
        have z4 : w1.frozen? ⟨w.heap.size, 4, none⟩ = false := hA2'.frozen 4
        have z5 : w1.frozen? ⟨w.heap.size, 5, none⟩ = false := hA2'.frozen 5
        have z6 : w1.frozen? ⟨w.heap.size, 6, none⟩ = false := hA2'.frozen 6
        have z7 : w1.frozen? ⟨w.heap.size, 7, none⟩ = false := hA2'.frozen 7
        have z8 : w1.frozen? ⟨w.heap.size, 8, none⟩ = false := hA2'.frozen 8
        go_wp2
        refine bodyPost_ret (v := .tuple #[tabX fun _ => emp, .bool false]) (results_tab _ _ (fun _ => emp) _ ?_ _ rfl rfl) rfl ⟨⟨fun _ => emp, by first | rfl | rw [HF.out], fun p _ => by first | rfl | (rw [HF.out]; rfl)⟩, ?_⟩
        · refine At.alloc ?_ _
          exact At.set9 (fun _ => emp) hA2'
        · (repeat' (first | (with_reducible exact Below.refl _ _) | (with_reducible assumption) | (with_reducible refine Below.alloc ?_ ?_ _) | (with_reducible refine Below.drew ?_) | (with_reducible refine Below.setCell ?_ ?_ _) | (with_reducible exact Nat.le_refl _) | omega | ((repeat (first | rewrite [World.size_alloc] | rewrite [World.size_setCell] | rewrite [World.size_drew])); omega) | (simp; omega) | (simp; done)))
    · have hk' : k = xs.length := by omega
      have h1 := hm.out
      rw [hk', List.take_of_length_le (Nat.le_refl _)] at h1
      have HT : Hid (mvalid xs = true ∧ ∀ p, p < 9 → g p = tabOf xs p) := ⟨by simpa [mvalid] using h1.1, h1.2⟩
      have hlt6 : w.heap.size < wr.heap.size := by omega
      clear h1 hk' hcell
      have q0 : wr.cell? ⟨w.heap.size + 1, 0, none⟩ = some (.string (g 0)) := hA4.cell 0
      have q1 : wr.cell? ⟨w.heap.size + 1, 1, none⟩ = some (.string (g 1)) := hA4.cell 1
      have q2 : wr.cell? ⟨w.heap.size + 1, 2, none⟩ = some (.string (g 2)) := hA4.cell 2
      have q3 : wr.cell? ⟨w.heap.size + 1, 3, none⟩ = some (.string (g 3)) := hA4.cell 3
      have q4 : wr.cell? ⟨w.heap.size + 1, 4, none⟩ = some (.string (g 4)) := hA4.cell 4
      have q5 : wr.cell? ⟨w.heap.size + 1, 5, none⟩ = some (.string (g 5)) := hA4.cell 5
      have q6 : wr.cell? ⟨w.heap.size + 1, 6, none⟩ = some (.string (g 6)) := hA4.cell 6
      have q7 : wr.cell? ⟨w.heap.size + 1, 7, none⟩ = some (.string (g 7)) := hA4.cell 7
      have q8 : wr.cell? ⟨w.heap.size + 1, 8, none⟩ = some (.string (g 8)) := hA4.cell 8
      have p0 : wr.cell? ⟨w.heap.size, 0, none⟩ = some (.string ⟨#[]⟩) := hA2.cell 0
      have p1 : wr.cell? ⟨w.heap.size, 1, none⟩ = some (.string ⟨#[]⟩) := hA2.cell 1
      have p2 : wr.cell? ⟨w.heap.size, 2, none⟩ = some (.string ⟨#[]⟩) := hA2.cell 2
      have p3 : wr.cell? ⟨w.heap.size, 3, none⟩ = some (.string ⟨#[]⟩) := hA2.cell 3
      have p4 : wr.cell? ⟨w.heap.size, 4, none⟩ = some (.string ⟨#[]⟩) := hA2.cell 4
      have p5 : wr.cell? ⟨w.heap.size, 5, none⟩ = some (.string ⟨#[]⟩) := hA2.cell 5
      have p6 : wr.cell? ⟨w.heap.size, 6, none⟩ = some (.string ⟨#[]⟩) := hA2.cell 6
      have p7 : wr.cell? ⟨w.heap.size, 7, none⟩ = some (.string ⟨#[]⟩) := hA2.cell 7
      have p8 : wr.cell? ⟨w.heap.size, 8, none⟩ = some (.string ⟨#[]⟩) := hA2.cell 8
      have z0 : wr.frozen? ⟨w.heap.size, 0, none⟩ = false := hA2.frozen 0
      have z1 : wr.frozen? ⟨w.heap.size, 1, none⟩ = false := hA2.frozen 1
      have z2 : wr.frozen? ⟨w.heap.size, 2, none⟩ = false := hA2.frozen 2
      have z3 : wr.frozen? ⟨w.heap.size, 3, none⟩ = false := hA2.frozen 3
      have z4 : wr.frozen? ⟨w.heap.size, 4, none⟩ = false := hA2.frozen 4
      have z5 : wr.frozen? ⟨w.heap.size, 5, none⟩ = false := hA2.frozen 5
      have z6 : wr.frozen? ⟨w.heap.size, 6, none⟩ = false := hA2.frozen 6
      have z7 : wr.frozen? ⟨w.heap.size, 7, none⟩ = false := hA2.frozen 7
      have z8 : wr.frozen? ⟨w.heap.size, 8, none⟩ = false := hA2.frozen 8
      go_wp2
      refine bodyPost_ret (v := .tuple #[tabX g, .bool true]) (results_tab _ _ g _ ?_ _ rfl rfl) rfl ⟨⟨g, by first | rfl | rw [HT.out.1], fun p hp => by first | exact HT.out.2 p hp | (rw [HT.out.1]; exact HT.out.2 p hp)⟩, ?_⟩
      · exact At.set9 g hA2
      · (repeat' (first | (with_reducible exact Below.refl _ _) | (with_reducible assumption) | (with_reducible refine Below.alloc ?_ ?_ _) | (with_reducible refine Below.drew ?_) | (with_reducible refine Below.setCell ?_ ?_ _) | (with_reducible exact Nat.le_refl _) | omega | ((repeat (first | rewrite [World.size_alloc] | rewrite [World.size_setCell] | rewrite [World.size_drew])); omega) | (simp; omega) | (simp; done)))
theorem tableOf_yes (xs : List Mv) (h : MV xs) (v : Value) (w : World) (hx : RdM w v xs) :
    Calls Tryz.prog 42 #[v] w fun e w' => e = .returned (.tuple #[tabX (tabOf xs), .bool true]) ∧ Below w.heap.size w w' :=
  (tableOf_c xs v w hx).mono fun e w' ⟨⟨g, he, hg⟩, hb⟩ => by
    have hm : mvalid xs = true := by simpa [mvalid] using h
    refine ⟨?_, hb⟩
    rw [he, hm, show tabX g = tabX (tabOf xs) from tabX_congr (fun p hp => by rw [hg p hp, if_pos hm])]
theorem tableOf_no (xs : List Mv) (h : ¬ MV xs) (v : Value) (w : World) (hx : RdM w v xs) :
    Calls Tryz.prog 42 #[v] w fun e w' => e = .returned (.tuple #[zX, .bool false]) ∧ Below w.heap.size w w' :=
  (tableOf_c xs v w hx).mono fun e w' ⟨⟨g, he, hg⟩, hb⟩ => by
    have hm : mvalid xs = false := by simpa [mvalid] using h
    refine ⟨?_, hb⟩
    rw [he, hm, show tabX g = tabX (fun _ => emp) from tabX_congr (fun p hp => by rw [hg p hp, if_neg (by rw [hm]; decide)])]
theorem imMovesValid_c (xs : List Mv) (v : Value) (w : World) (hx : RdM w v xs) :
    Calls Tryz.prog 60 #[v] w fun e w' => e = .returned (.bool (mvalid xs)) ∧ Below w.heap.size w w' := by
  by_cases h : MV xs
  · have hm : mvalid xs = true := by simpa [mvalid] using h
    rw [hm]
    go_enter Tryz.func60, Tryz.ntmps60
    go_wp2_with (go_at_call 42; refine (tableOf_yes xs h _ _ hx).mono ?_; rintro e w1 ⟨rfl, hb⟩)
    go_ret
    exact ⟨rfl, by have := hb.size; (repeat' (first | (with_reducible exact Below.refl _ _) | (with_reducible assumption) | (with_reducible refine Below.alloc ?_ ?_ _) | (with_reducible refine Below.drew ?_) | (with_reducible refine Below.setCell ?_ ?_ _) | (with_reducible exact Nat.le_refl _) | omega | ((repeat (first | rewrite [World.size_alloc] | rewrite [World.size_setCell] | rewrite [World.size_drew])); omega) | (simp; omega) | (simp; done)))⟩
  · have hm : mvalid xs = false := by simpa [mvalid] using h
    rw [hm]
    go_enter Tryz.func60, Tryz.ntmps60
    go_wp2_with (go_at_call 42; refine (tableOf_no xs h _ _ hx).mono ?_; rintro e w1 ⟨rfl, hb⟩)
    go_ret
    exact ⟨rfl, by have := hb.size; (repeat' (first | (with_reducible exact Below.refl _ _) | (with_reducible assumption) | (with_reducible refine Below.alloc ?_ ?_ _) | (with_reducible refine Below.drew ?_) | (with_reducible refine Below.setCell ?_ ?_ _) | (with_reducible exact Nat.le_refl _) | omega | ((repeat (first | rewrite [World.size_alloc] | rewrite [World.size_setCell] | rewrite [World.size_drew])); omega) | (simp; omega) | (simp; done)))⟩
end Go.Proofs.YtfedloljhocpgaaGreatDoor

