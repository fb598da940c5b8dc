import Derived.Test.YtbgchjjaaelkbaaIm2
import Derived.Test.YtbgchjjaaelkbaaSp1
namespace Go.Proofs.Ytbgchjjaaelkbaa
open Go.RowKit Go.PM

set_option maxRecDepth 100000 in
set_option maxHeartbeats 400000 in
theorem l1Source_c (xs : List Mv) (v : Value) (a : ByteArray) (w : World) (hx : RdM w v xs) :
    Calls Try.prog 78 #[v, .string a] w fun e w' => e = .returned (.string (srcM xs a)) ∧ Below w.heap.size w w' := by
  obtain ⟨A, cap, rfl, hn, hc, hcell⟩ := hx.open
  go_enter Try.func78, Try.ntmps78
  go_wp2
  go_loopw [6, 9] (fun _ i wr => ∃ (k : Nat), k ≤ xs.length ∧ i = .int .i64 k ∧ Hid (srcM xs a = srcM (xs.drop k) a) ∧ Below w.heap.size w wr) (fun _ i _ => xs.length - (intOf i).toNat)
  case atStart => exact ⟨0, by omega, rfl, by show _ = _; simp, Below.refl _ _⟩
  case round =>
    obtain ⟨k, hk, rfl, hm, hb⟩ := hrel
    have hbs := hb.size
    by_cases hlt : k < xs.length
    · obtain ⟨b, off, rfl, hbl, hc1, hc2⟩ := hcell k hlt
      have hd1 := (hb.cell (p := ⟨b, off + k * 2, none⟩) hbl).trans hc1
      have hd2 := (hb.cell (p := ⟨b, off + k * 2 + 1, none⟩) hbl).trans hc2
      have hs := srcM_drop xs a k hlt
      clear hc1 hc2 hcell
      generalize xs[k].1 = x1 at *
      generalize xs[k].2 = x2 at *
      have HS := Lib.hid hs
      clear hs
      go_wp2
      · have h : (x1.toList == a.toList) = true := by assumption
        go_ret
        refine ⟨?_, by (repeat' (first | (with_reducible exact Below.refl _ _) | (with_reducible assumption) | (with_reducible refine Below.alloc ?_ ?_ _) | (with_reducible refine Below.drew ?_) | (with_reducible refine Below.setCell ?_ ?_ _) | (with_reducible exact Nat.le_refl _) | omega | ((repeat (first | rewrite [World.size_alloc] | rewrite [World.size_setCell] | rewrite [World.size_drew])); omega) | (simp; omega) | (simp; done)))⟩
        rw [beq_str, decide_eq_true_eq] at h
        rw [hm.out, HS.out, if_pos h]; rfl
      · have h : (x1.toList == a.toList) = false := by assumption
        go_roundw
        case rel =>
          refine ⟨k + 1, by omega, by go_num, ?_, by (repeat' (first | (with_reducible exact Below.refl _ _) | (with_reducible assumption) | (with_reducible refine Below.alloc ?_ ?_ _) | (with_reducible refine Below.drew ?_) | (with_reducible refine Below.setCell ?_ ?_ _) | (with_reducible exact Nat.le_refl _) | omega | ((repeat (first | rewrite [World.size_alloc] | rewrite [World.size_setCell] | rewrite [World.size_drew])); omega) | (simp; omega) | (simp; done)))⟩
          show _ = _
          rw [beq_str, decide_eq_false_iff_not] at h
          rw [hm.out, HS.out, if_neg h]
        case measure => simp [intOf]; omega
    · have hs : srcM (xs.drop k) a = a := by rw [List.drop_eq_nil_iff.2 (by omega)]; rfl
      have HS := Lib.hid hs
      clear hs
      go_wp2
      go_ret
      exact ⟨by rw [hm.out, HS.out]; rfl, hb⟩

theorem results_tap (W : World) (b : Nat) (g : Nat → ByteArray) (n : Value) (x : Bool) (hA : At W b 73 (tabA g)) (tmps : Array Value) (h2 : tmps.getD 4 undef = .pointer (some ⟨b, 0, none⟩)) (h3 : tmps.getD 5 undef = n) (h4 : tmps.getD 6 undef = .bool x) :
    (results Try.f84 tmps).run Try.prog W = .ok (.tuple #[tabX g, n, .bool x]) W := by
  have q0 := hA.cell 0
  have q1 := hA.cell 1
  have q2 := hA.cell 2
  have q3 := hA.cell 3
  have q4 := hA.cell 4
  have q5 := hA.cell 5
  have q6 := hA.cell 6
  have q7 := hA.cell 7
  have q8 := hA.cell 8
  simp only [tabA] at q0 q1 q2 q3 q4 q5 q6 q7 q8
  simp at q0 q1 q2 q3 q4 q5 q6 q7 q8
  simp only [Array.getD_eq_getD_getElem?] at h2 h3 h4
  simp [results, Try.results84, go_sem, h2, h3, h4, q0, q1, q2, q3, q4, q5, q6, q7, q8]
set_option maxRecDepth 100000 in
set_option maxHeartbeats 800000 in
theorem tableAndPlace_yes (xs : List Mv) (v : Value) (a : ByteArray) (w : World) (hx : RdM w v xs) (h1 : MV xs) (h2 : isP a = true) :
    Calls Try.prog 84 #[v, .string a] w fun e w' => e = .returned (.tuple #[tabX (tabOf xs), .int .i64 (pidx a), .bool true]) ∧ Below w.heap.size w w' := by
  have HT := Lib.hid (tableOf_yes xs h1)
  clear h1
  generalize tabOf xs = g at *
  go_enter Try.func84, Try.ntmps84
  go_wp2_with fail
  have a0 : At (w.alloc (.cells zA 73)) w.heap.size 73 zA := At.new w _ _
  refine (HT.out v _ (hx.below ((Below.refl _ _).alloc (Nat.le_refl _) _))).mono ?_
  rintro e w1 ⟨rfl, hb1⟩
  have a1 := a0.keep hb1
  have hs1 := hb1.size
  rw [World.size_alloc] at hs1
  have b1 : Below w.heap.size w w1 := ((Below.refl _ _).alloc (Nat.le_refl _) _).trans (hb1.mono (by rw [World.size_alloc]; omega))
  have bs1 := b1.size
  go_wp2_with fail
  have a2 := a1.alloc (.cells (tabA g) 73)
  refine (indexOf_yes a h2 _).mono ?_
  rintro e w' ⟨rfl, rfl⟩
  have p0 : (w1.alloc (.cells (tabA g) 73)).cell? ⟨w.heap.size, 0, none⟩ = some (.string ⟨#[]⟩) := a2.cell 0
  have p1 : (w1.alloc (.cells (tabA g) 73)).cell? ⟨w.heap.size, 1, none⟩ = some (.string ⟨#[]⟩) := a2.cell 1
  have p2 : (w1.alloc (.cells (tabA g) 73)).cell? ⟨w.heap.size, 2, none⟩ = some (.string ⟨#[]⟩) := a2.cell 2
  have p3 : (w1.alloc (.cells (tabA g) 73)).cell? ⟨w.heap.size, 3, none⟩ = some (.string ⟨#[]⟩) := a2.cell 3
  have p4 : (w1.alloc (.cells (tabA g) 73)).cell? ⟨w.heap.size, 4, none⟩ = some (.string ⟨#[]⟩) := a2.cell 4
  have p5 : (w1.alloc (.cells (tabA g) 73)).cell? ⟨w.heap.size, 5, none⟩ = some (.string ⟨#[]⟩) := a2.cell 5
  have p6 : (w1.alloc (.cells (tabA g) 73)).cell? ⟨w.heap.size, 6, none⟩ = some (.string ⟨#[]⟩) := a2.cell 6
  have p7 : (w1.alloc (.cells (tabA g) 73)).cell? ⟨w.heap.size, 7, none⟩ = some (.string ⟨#[]⟩) := a2.cell 7
  have p8 : (w1.alloc (.cells (tabA g) 73)).cell? ⟨w.heap.size, 8, none⟩ = some (.string ⟨#[]⟩) := a2.cell 8
  have z0 : (w1.alloc (.cells (tabA g) 73)).frozen? ⟨w.heap.size, 0, none⟩ = false := a2.frozen 0
  have z1 : (w1.alloc (.cells (tabA g) 73)).frozen? ⟨w.heap.size, 1, none⟩ = false := a2.frozen 1
  have z2 : (w1.alloc (.cells (tabA g) 73)).frozen? ⟨w.heap.size, 2, none⟩ = false := a2.frozen 2
  have z3 : (w1.alloc (.cells (tabA g) 73)).frozen? ⟨w.heap.size, 3, none⟩ = false := a2.frozen 3
  have z4 : (w1.alloc (.cells (tabA g) 73)).frozen? ⟨w.heap.size, 4, none⟩ = false := a2.frozen 4
  have z5 : (w1.alloc (.cells (tabA g) 73)).frozen? ⟨w.heap.size, 5, none⟩ = false := a2.frozen 5
  have z6 : (w1.alloc (.cells (tabA g) 73)).frozen? ⟨w.heap.size, 6, none⟩ = false := a2.frozen 6
  have z7 : (w1.alloc (.cells (tabA g) 73)).frozen? ⟨w.heap.size, 7, none⟩ = false := a2.frozen 7
  have z8 : (w1.alloc (.cells (tabA g) 73)).frozen? ⟨w.heap.size, 8, none⟩ = false := a2.frozen 8
  have l2 := a2.lt
  go_wp2
  refine bodyPost_ret (v := .tuple #[tabX g, .int .i64 (pidx a), .bool true]) (results_tap _ _ g _ _ (At.set9 g a2) _ rfl rfl rfl) rfl ⟨rfl, ?_⟩
  (repeat' (first | (with_reducible exact Below.refl _ _) | (with_reducible assumption) | (with_reducible refine Below.alloc ?_ ?_ _) | (with_reducible refine Below.drew ?_) | (with_reducible refine Below.setCell ?_ ?_ _) | (with_reducible exact Nat.le_refl _) | omega | ((repeat (first | rewrite [World.size_alloc] | rewrite [World.size_setCell] | rewrite [World.size_drew])); omega) | (simp; omega) | (simp; done)))
set_option maxRecDepth 100000 in
set_option maxHeartbeats 800000 in
theorem tableAndPlace_no (xs : List Mv) (v : Value) (a : ByteArray) (w : World) (hx : RdM w v xs) (h : (mvalid xs && isP a) = false) :
    Calls Try.prog 84 #[v, .string a] w fun e w' => (∃ g n, e = .returned (.tuple #[tabX g, .int .i64 n, .bool false])) ∧ Below w.heap.size w w' := by
  by_cases h1 : MV xs
  · have hm : mvalid xs = true := by simpa [mvalid] using h1
    have h2 : isP a = false := by rw [hm] at h; simpa using h
    have HT := Lib.hid (tableOf_yes xs h1)
    clear h h1 hm
    generalize tabOf xs = g at *
    go_enter Try.func84, Try.ntmps84
    go_wp2_with fail
    have a0 : At (w.alloc (.cells zA 73)) w.heap.size 73 zA := At.new w _ _
    refine (HT.out v _ (hx.below ((Below.refl _ _).alloc (Nat.le_refl _) _))).mono ?_
    rintro e w1 ⟨rfl, hb1⟩
    have a1 := a0.keep hb1
    have hs1 := hb1.size
    rw [World.size_alloc] at hs1
    have b1 : Below w.heap.size w w1 := ((Below.refl _ _).alloc (Nat.le_refl _) _).trans (hb1.mono (by rw [World.size_alloc]; omega))
    have bs1 := b1.size
    go_wp2_with fail
    have a2 := a1.alloc (.cells (tabA g) 73)
    refine (indexOf_no a h2 _).mono ?_
    rintro e w' ⟨rfl, rfl⟩
    have p0 : (w1.alloc (.cells (tabA g) 73)).cell? ⟨w.heap.size, 0, none⟩ = some (.string ⟨#[]⟩) := a2.cell 0
    have p1 : (w1.alloc (.cells (tabA g) 73)).cell? ⟨w.heap.size, 1, none⟩ = some (.string ⟨#[]⟩) := a2.cell 1
    have p2 : (w1.alloc (.cells (tabA g) 73)).cell? ⟨w.heap.size, 2, none⟩ = some (.string ⟨#[]⟩) := a2.cell 2
    have p3 : (w1.alloc (.cells (tabA g) 73)).cell? ⟨w.heap.size, 3, none⟩ = some (.string ⟨#[]⟩) := a2.cell 3
    have p4 : (w1.alloc (.cells (tabA g) 73)).cell? ⟨w.heap.size, 4, none⟩ = some (.string ⟨#[]⟩) := a2.cell 4
    have p5 : (w1.alloc (.cells (tabA g) 73)).cell? ⟨w.heap.size, 5, none⟩ = some (.string ⟨#[]⟩) := a2.cell 5
    have p6 : (w1.alloc (.cells (tabA g) 73)).cell? ⟨w.heap.size, 6, none⟩ = some (.string ⟨#[]⟩) := a2.cell 6
    have p7 : (w1.alloc (.cells (tabA g) 73)).cell? ⟨w.heap.size, 7, none⟩ = some (.string ⟨#[]⟩) := a2.cell 7
    have p8 : (w1.alloc (.cells (tabA g) 73)).cell? ⟨w.heap.size, 8, none⟩ = some (.string ⟨#[]⟩) := a2.cell 8
    have z0 : (w1.alloc (.cells (tabA g) 73)).frozen? ⟨w.heap.size, 0, none⟩ = false := a2.frozen 0
    have z1 : (w1.alloc (.cells (tabA g) 73)).frozen? ⟨w.heap.size, 1, none⟩ = false := a2.frozen 1
    have z2 : (w1.alloc (.cells (tabA g) 73)).frozen? ⟨w.heap.size, 2, none⟩ = false := a2.frozen 2
    have z3 : (w1.alloc (.cells (tabA g) 73)).frozen? ⟨w.heap.size, 3, none⟩ = false := a2.frozen 3
    have z4 : (w1.alloc (.cells (tabA g) 73)).frozen? ⟨w.heap.size, 4, none⟩ = false := a2.frozen 4
    have z5 : (w1.alloc (.cells (tabA g) 73)).frozen? ⟨w.heap.size, 5, none⟩ = false := a2.frozen 5
    have z6 : (w1.alloc (.cells (tabA g) 73)).frozen? ⟨w.heap.size, 6, none⟩ = false := a2.frozen 6
    have z7 : (w1.alloc (.cells (tabA g) 73)).frozen? ⟨w.heap.size, 7, none⟩ = false := a2.frozen 7
    have z8 : (w1.alloc (.cells (tabA g) 73)).frozen? ⟨w.heap.size, 8, none⟩ = false := a2.frozen 8
    have l2 := a2.lt
    go_wp2
    refine bodyPost_ret (v := .tuple #[tabX g, .int .i64 0, .bool false]) (results_tap _ _ g _ _ (At.set9 g a2) _ rfl rfl rfl) rfl ⟨⟨_, _, rfl⟩, ?_⟩
    (repeat' (first | (with_reducible exact Below.refl _ _) | (with_reducible assumption) | (with_reducible refine Below.alloc ?_ ?_ _) | (with_reducible refine Below.drew ?_) | (with_reducible refine Below.setCell ?_ ?_ _) | (with_reducible exact Nat.le_refl _) | omega | ((repeat (first | rewrite [World.size_alloc] | rewrite [World.size_setCell] | rewrite [World.size_drew])); omega) | (simp; omega) | (simp; done)))
  · clear h
    rcases Bool.eq_false_or_eq_true (isP a) with h2 | h2
    · go_enter Try.func84, Try.ntmps84
      go_wp2_with fail
      have a0 : At (w.alloc (.cells zA 73)) w.heap.size 73 zA := At.new w _ _
      refine (tableOf_no xs h1 v _ (hx.below ((Below.refl _ _).alloc (Nat.le_refl _) _))).mono ?_
      rintro e w1 ⟨rfl, hb1⟩
      have a1 := a0.keep hb1
      have hs1 := hb1.size
      rw [World.size_alloc] at hs1
      have b1 : Below w.heap.size w w1 := ((Below.refl _ _).alloc (Nat.le_refl _) _).trans (hb1.mono (by rw [World.size_alloc]; omega))
      have bs1 := b1.size
      go_wp2_with fail
      have a2 := a1.alloc (.cells (tabA (fun _ => emp)) 73)
      refine (indexOf_yes a h2 _).mono ?_
      rintro e w' ⟨rfl, rfl⟩
      have p0 : (w1.alloc (.cells (tabA (fun _ => emp)) 73)).cell? ⟨w.heap.size, 0, none⟩ = some (.string ⟨#[]⟩) := a2.cell 0
      have p1 : (w1.alloc (.cells (tabA (fun _ => emp)) 73)).cell? ⟨w.heap.size, 1, none⟩ = some (.string ⟨#[]⟩) := a2.cell 1
      have p2 : (w1.alloc (.cells (tabA (fun _ => emp)) 73)).cell? ⟨w.heap.size, 2, none⟩ = some (.string ⟨#[]⟩) := a2.cell 2
      have p3 : (w1.alloc (.cells (tabA (fun _ => emp)) 73)).cell? ⟨w.heap.size, 3, none⟩ = some (.string ⟨#[]⟩) := a2.cell 3
      have p4 : (w1.alloc (.cells (tabA (fun _ => emp)) 73)).cell? ⟨w.heap.size, 4, none⟩ = some (.string ⟨#[]⟩) := a2.cell 4
      have p5 : (w1.alloc (.cells (tabA (fun _ => emp)) 73)).cell? ⟨w.heap.size, 5, none⟩ = some (.string ⟨#[]⟩) := a2.cell 5
      have p6 : (w1.alloc (.cells (tabA (fun _ => emp)) 73)).cell? ⟨w.heap.size, 6, none⟩ = some (.string ⟨#[]⟩) := a2.cell 6
      have p7 : (w1.alloc (.cells (tabA (fun _ => emp)) 73)).cell? ⟨w.heap.size, 7, none⟩ = some (.string ⟨#[]⟩) := a2.cell 7
      have p8 : (w1.alloc (.cells (tabA (fun _ => emp)) 73)).cell? ⟨w.heap.size, 8, none⟩ = some (.string ⟨#[]⟩) := a2.cell 8
      have z0 : (w1.alloc (.cells (tabA (fun _ => emp)) 73)).frozen? ⟨w.heap.size, 0, none⟩ = false := a2.frozen 0
      have z1 : (w1.alloc (.cells (tabA (fun _ => emp)) 73)).frozen? ⟨w.heap.size, 1, none⟩ = false := a2.frozen 1
      have z2 : (w1.alloc (.cells (tabA (fun _ => emp)) 73)).frozen? ⟨w.heap.size, 2, none⟩ = false := a2.frozen 2
      have z3 : (w1.alloc (.cells (tabA (fun _ => emp)) 73)).frozen? ⟨w.heap.size, 3, none⟩ = false := a2.frozen 3
      have z4 : (w1.alloc (.cells (tabA (fun _ => emp)) 73)).frozen? ⟨w.heap.size, 4, none⟩ = false := a2.frozen 4
      have z5 : (w1.alloc (.cells (tabA (fun _ => emp)) 73)).frozen? ⟨w.heap.size, 5, none⟩ = false := a2.frozen 5
      have z6 : (w1.alloc (.cells (tabA (fun _ => emp)) 73)).frozen? ⟨w.heap.size, 6, none⟩ = false := a2.frozen 6
      have z7 : (w1.alloc (.cells (tabA (fun _ => emp)) 73)).frozen? ⟨w.heap.size, 7, none⟩ = false := a2.frozen 7
      have z8 : (w1.alloc (.cells (tabA (fun _ => emp)) 73)).frozen? ⟨w.heap.size, 8, none⟩ = false := a2.frozen 8
      have l2 := a2.lt
      go_wp2
      refine bodyPost_ret (v := .tuple #[tabX (fun _ => emp), .int .i64 (pidx a), .bool false]) (results_tap _ _ (fun _ => emp) _ _ (At.set9 (fun _ => emp) a2) _ rfl rfl rfl) rfl ⟨⟨_, _, rfl⟩, ?_⟩
      (repeat' (first | (with_reducible exact Below.refl _ _) | (with_reducible assumption) | (with_reducible refine Below.alloc ?_ ?_ _) | (with_reducible refine Below.drew ?_) | (with_reducible refine Below.setCell ?_ ?_ _) | (with_reducible exact Nat.le_refl _) | omega | ((repeat (first | rewrite [World.size_alloc] | rewrite [World.size_setCell] | rewrite [World.size_drew])); omega) | (simp; omega) | (simp; done)))
    · go_enter Try.func84, Try.ntmps84
      go_wp2_with fail
      have a0 : At (w.alloc (.cells zA 73)) w.heap.size 73 zA := At.new w _ _
      refine (tableOf_no xs h1 v _ (hx.below ((Below.refl _ _).alloc (Nat.le_refl _) _))).mono ?_
      rintro e w1 ⟨rfl, hb1⟩
      have a1 := a0.keep hb1
      have hs1 := hb1.size
      rw [World.size_alloc] at hs1
      have b1 : Below w.heap.size w w1 := ((Below.refl _ _).alloc (Nat.le_refl _) _).trans (hb1.mono (by rw [World.size_alloc]; omega))
      have bs1 := b1.size
      go_wp2_with fail
      have a2 := a1.alloc (.cells (tabA (fun _ => emp)) 73)
      refine (indexOf_no a h2 _).mono ?_
      rintro e w' ⟨rfl, rfl⟩
      have p0 : (w1.alloc (.cells (tabA (fun _ => emp)) 73)).cell? ⟨w.heap.size, 0, none⟩ = some (.string ⟨#[]⟩) := a2.cell 0
      have p1 : (w1.alloc (.cells (tabA (fun _ => emp)) 73)).cell? ⟨w.heap.size, 1, none⟩ = some (.string ⟨#[]⟩) := a2.cell 1
      have p2 : (w1.alloc (.cells (tabA (fun _ => emp)) 73)).cell? ⟨w.heap.size, 2, none⟩ = some (.string ⟨#[]⟩) := a2.cell 2
      have p3 : (w1.alloc (.cells (tabA (fun _ => emp)) 73)).cell? ⟨w.heap.size, 3, none⟩ = some (.string ⟨#[]⟩) := a2.cell 3
      have p4 : (w1.alloc (.cells (tabA (fun _ => emp)) 73)).cell? ⟨w.heap.size, 4, none⟩ = some (.string ⟨#[]⟩) := a2.cell 4
      have p5 : (w1.alloc (.cells (tabA (fun _ => emp)) 73)).cell? ⟨w.heap.size, 5, none⟩ = some (.string ⟨#[]⟩) := a2.cell 5
      have p6 : (w1.alloc (.cells (tabA (fun _ => emp)) 73)).cell? ⟨w.heap.size, 6, none⟩ = some (.string ⟨#[]⟩) := a2.cell 6
      have p7 : (w1.alloc (.cells (tabA (fun _ => emp)) 73)).cell? ⟨w.heap.size, 7, none⟩ = some (.string ⟨#[]⟩) := a2.cell 7
      have p8 : (w1.alloc (.cells (tabA (fun _ => emp)) 73)).cell? ⟨w.heap.size, 8, none⟩ = some (.string ⟨#[]⟩) := a2.cell 8
      have z0 : (w1.alloc (.cells (tabA (fun _ => emp)) 73)).frozen? ⟨w.heap.size, 0, none⟩ = false := a2.frozen 0
      have z1 : (w1.alloc (.cells (tabA (fun _ => emp)) 73)).frozen? ⟨w.heap.size, 1, none⟩ = false := a2.frozen 1
      have z2 : (w1.alloc (.cells (tabA (fun _ => emp)) 73)).frozen? ⟨w.heap.size, 2, none⟩ = false := a2.frozen 2
      have z3 : (w1.alloc (.cells (tabA (fun _ => emp)) 73)).frozen? ⟨w.heap.size, 3, none⟩ = false := a2.frozen 3
      have z4 : (w1.alloc (.cells (tabA (fun _ => emp)) 73)).frozen? ⟨w.heap.size, 4, none⟩ = false := a2.frozen 4
      have z5 : (w1.alloc (.cells (tabA (fun _ => emp)) 73)).frozen? ⟨w.heap.size, 5, none⟩ = false := a2.frozen 5
      have z6 : (w1.alloc (.cells (tabA (fun _ => emp)) 73)).frozen? ⟨w.heap.size, 6, none⟩ = false := a2.frozen 6
      have z7 : (w1.alloc (.cells (tabA (fun _ => emp)) 73)).frozen? ⟨w.heap.size, 7, none⟩ = false := a2.frozen 7
      have z8 : (w1.alloc (.cells (tabA (fun _ => emp)) 73)).frozen? ⟨w.heap.size, 8, none⟩ = false := a2.frozen 8
      have l2 := a2.lt
      go_wp2
      refine bodyPost_ret (v := .tuple #[tabX (fun _ => emp), .int .i64 0, .bool false]) (results_tap _ _ (fun _ => emp) _ _ (At.set9 (fun _ => emp) a2) _ rfl rfl rfl) rfl ⟨⟨_, _, rfl⟩, ?_⟩
      (repeat' (first | (with_reducible exact Below.refl _ _) | (with_reducible assumption) | (with_reducible refine Below.alloc ?_ ?_ _) | (with_reducible refine Below.drew ?_) | (with_reducible refine Below.setCell ?_ ?_ _) | (with_reducible exact Nat.le_refl _) | omega | ((repeat (first | rewrite [World.size_alloc] | rewrite [World.size_setCell] | rewrite [World.size_drew])); omega) | (simp; omega) | (simp; done)))
theorem imSourceOf_c (xs : List Mv) (v : Value) (a : ByteArray) (w : World) (hx : RdM w v xs) :
    Calls Try.prog 34 #[v, .string a] w fun e w' => e = .returned (.tuple #[.string (okS (mvalid xs && isP a) (srcM xs a)), .bool (mvalid xs && isP a)]) ∧ Below w.heap.size w w' := by
  have HO : Hid (∀ b s, okS b s = if b then s else ⟨#[]⟩) := fun _ _ => rfl
  rcases Bool.eq_false_or_eq_true (mvalid xs && isP a) with h | h
  · have h1 : MV xs := by have := (Bool.and_eq_true _ _ ▸ h).1; simpa [mvalid] using this
    have h2 : isP a = true := (Bool.and_eq_true _ _ ▸ h).2
    have HSR := Lib.hid (srcM_place h1 h2)
    have hp := (pidx_spec h2).1
    have HT := Lib.hid (tableAndPlace_yes xs v a w hx h1 h2)
    rw [h]
    clear h h1
    go_enter Try.func34, Try.ntmps34
    go_wp2_with fail
    refine HT.out.mono ?_
    rintro e w1 ⟨rfl, hb1⟩
    have hs1 := hb1.size
    go_wp2_with (go_at_call 85; refine (source_c (tabOf xs) (pidx a) hp _).mono ?_; rintro e w2 ⟨rfl, hb2⟩)
    go_ret2
    refine ⟨by rw [HO.out, ← HSR.out]; rfl, ?_⟩
    first
      | exact (hb1.alloc hs1 _).trans (hb2.mono (by simp; omega))
      | exact hb1.trans (hb2.mono hs1)
  · have HT := Lib.hid (tableAndPlace_no xs v a w hx h)
    rw [h]
    clear h
    go_enter Try.func34, Try.ntmps34
    go_wp2_with fail
    refine HT.out.mono ?_
    rintro e w1 ⟨⟨g, n, rfl⟩, hb1⟩
    have hs1 := hb1.size
    go_wp2
    go_ret2
    exact ⟨by rw [HO.out]; rfl, by (repeat' (first | (with_reducible exact Below.refl _ _) | (with_reducible assumption) | (with_reducible refine Below.alloc ?_ ?_ _) | (with_reducible refine Below.drew ?_) | (with_reducible refine Below.setCell ?_ ?_ _) | (with_reducible exact Nat.le_refl _) | omega | ((repeat (first | rewrite [World.size_alloc] | rewrite [World.size_setCell] | rewrite [World.size_drew])); omega) | (simp; omega) | (simp; done)))⟩
end Go.Proofs.Ytbgchjjaaelkbaa
