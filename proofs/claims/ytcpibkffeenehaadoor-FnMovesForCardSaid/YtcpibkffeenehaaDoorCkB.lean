import Derived.Test.YtcpibkffeenehaaDoorNames
import Derived.Test.YtcpibkffeenehaaDoorBusyP
import Derived.Test.YtcpibkffeenehaaDoorComp
import Derived.Test.YtcpibkffeenehaaDoorTail
import Derived.Test.YtcpibkffeenehaaDoorRow
import Derived.Test.YtcpibkffeenehaaDoorHold
import Derived.Test.YtcpibkffeenehaaDoorIm3
import Derived.Test.YtcpibkffeenehaaDoorM2
import Derived.BigQuiet
import Derived.ChangeAlike
import Derived.RegionTactic
import Derived.Test.YtcpibkffeenehaaDoorApp
import Derived.Test.YtcpibkffeenehaaDoorClP
import Derived.Test.YtcpibkffeenehaaDoorReg
import Derived.Test.YtcpibkffeenehaaDoorIm2
import Derived.Test.YtcpibkffeenehaaDoorMoves
import Derived.Test.YtcpibkffeenehaaDoorU8
import Derived.Test.YtcpibkffeenehaaDoorHar
namespace Go.PM
open Go.RowKit
/-- the table with the sources of the first k places in it -/
def mix (f : Nat → ByteArray) (k : Nat) : Nat → ByteArray := fun q => if q < k then srcT f q else f q
theorem mix_zero (f : Nat → ByteArray) : mix f 0 = f := by funext q; simp [mix]
theorem mix_at (f : Nat → ByteArray) (k : Nat) : srcT (mix f k) k = srcT f k := by simp [srcT, mix]
theorem mix_set (f : Nat → ByteArray) (k : Nat) (hk : k < 9) : (tabA (mix f k)).setIfInBounds k (.string (srcT f k)) = tabA (mix f (k + 1)) := by
  have h := tabC_set (mix f k) k hk (srcT f k)
  have e : (fun q => if q = k then srcT f k else mix f k q) = mix f (k + 1) := by
    funext q
    by_cases hq : q = k
    · subst hq; simp [mix]
    · by_cases h2 : q < k
      · simp [mix, hq, h2, Nat.lt_succ_of_lt h2]
      · have : ¬ q < k + 1 := by omega
        simp [mix, hq, h2, this]
  rw [e] at h
  exact h
end Go.PM
namespace Go.Proofs.YtcpibkffeenehaaDoor
open Go.RowKit Go.PM
attribute [local go_sem] Oper.semAt_some

theorem results_src (W : World) (b : Nat) (g : Nat → ByteArray) (hA : At W b 63 (tabA g)) (tmps : Array Value) (h2' : tmps.getD 2 undef = .pointer (some ⟨b, 0, none⟩)) :
    (results Tryd.f93 tmps).run Tryd.prog W = .ok (tabX g) W := by
  have q0 : W.cell? ⟨b, 0, none⟩ = some (.string (g 0)) := hA.cell 0
  have q1 : W.cell? ⟨b, 1, none⟩ = some (.string (g 1)) := hA.cell 1
  have q2 : W.cell? ⟨b, 2, none⟩ = some (.string (g 2)) := hA.cell 2
  have q3 : W.cell? ⟨b, 3, none⟩ = some (.string (g 3)) := hA.cell 3
  have q4 : W.cell? ⟨b, 4, none⟩ = some (.string (g 4)) := hA.cell 4
  have q5 : W.cell? ⟨b, 5, none⟩ = some (.string (g 5)) := hA.cell 5
  have q6 : W.cell? ⟨b, 6, none⟩ = some (.string (g 6)) := hA.cell 6
  have q7 : W.cell? ⟨b, 7, none⟩ = some (.string (g 7)) := hA.cell 7
  have q8 : W.cell? ⟨b, 8, none⟩ = some (.string (g 8)) := hA.cell 8
  have h2 : tmps[2]?.getD undef = .pointer (some ⟨b, 0, none⟩) := by simpa using h2'
  simp [results, Tryd.results93, go_sem, h2, q0, q1, q2, q3, q4, q5, q6, q7, q8]
set_option maxRecDepth 100000 in
set_option maxHeartbeats 2000000 in
theorem sources_c (f : Nat → ByteArray) (w : World) :
    Calls Tryd.prog 93 #[tabX f] w fun e w' => e = .returned (tabX (mix f 9)) ∧ Below w.heap.size w w' := by
  refine (callsIn_wide (n := 5)).1 ?_
  refine callsIn_of_wp_marks Tryd.func93 rfl trivial ?_ rfl
  simp only [Tryd.ntmps93, List.size_toArray, List.length_cons, List.length_nil, Nat.reduceAdd, Nat.reduceSub, Array.replicate_succ, Array.replicate_zero, List.push_toArray, List.append_toArray, List.nil_append, List.cons_append]
  gi_wp2
  refine range_law (F := Fence.wide) (gf := 88) (lf := #[.int .i64 9]) (lb := #[]) rfl (by decide) rfl trivial (fun args w => rfl) (encs := fun p : Nat => #[.int .i64 p]) (xs := List.range 9)
    (below_iter _ _ trivial rfl (by decide)) (fun _ => rfl)
    (fun pre W => At W w.heap.size 63 (tabA (mix f pre.length)) ∧ At W (w.heap.size + 1) 63 zA ∧ Below w.heap.size w W)
    (fun _ _ _ => False) ?_ (fun _ => ownFrom_pure _ _) ?_ (fun p => { tmps := #[tabX f, .pointer (some ⟨w.heap.size, 0, none⟩), .pointer (some ⟨w.heap.size + 1, 0, none⟩), .int .i64 p, .func (.func 88) #[.int .i64 9] #[], .int .i64 p, undef, undef, undef, undef, undef, undef], defers := [] }) ?_ ?_ ?_ ?_
  · rintro s A A' row ⟨h1, h2, h3⟩ hg hr
    have hr' : ∀ r, row = some r → w.heap.size + 2 ≤ r := fun r e => by have := (hr r e).1; simp only [World.size_alloc] at this; omega
    refine ⟨(hg.block _ h1.lt (fun e => ?_)).trans h1, (hg.block _ h2.lt (fun e => ?_)).trans h2, h3.trans (below_grown hg h3.size (fun g e => ?_))⟩
    · have := hr' _ e.symm; omega
    · have := hr' _ e.symm; omega
    · have := hr' _ e; omega
  · refine ⟨?_, ?_, ?_⟩
    · rw [List.length_nil, mix_zero]
      exact (At.new w _ _).alloc _
    · have := At.new (w.alloc (.cells (tabA f) 63)) 63 zA
      rwa [World.size_alloc] at this
    · exact ((Below.refl _ _).alloc (Nat.le_refl _) _).alloc (by simp [World.size_alloc]) _
  · intro l p W Kc hK
    gi_wp2
    exact hK
  · rintro l pre p W ⟨h1, h2, h3⟩ hp hsz
    obtain ⟨hl, hp9⟩ := pre_len pre p hp
    rw [hl] at h1
    have HL : Hid ((pre ++ [p]).length = p + 1) := by show _ = _; simp [hl]
    have hms := mix_set f p hp9
    have hsrc := mix_at f p
    have HMS := Lib.hid hms
    have HSR := Lib.hid hsrc
    clear hms hsrc hl
    have hpc : (tabA (mix f p))[p]? = some (.string (mix f p p)) := tabC_at (mix f p) p hp9
    generalize hgm : mix f p = g at *
    have i0 : (0 : Int) ≤ (p : Int) := by omega
    have i1 : (p : Int) < 9 := by omega
    have q0 : W.cell? ⟨w.heap.size, 0, none⟩ = some (.string (g 0)) := h1.cell 0
    have q1 : W.cell? ⟨w.heap.size, 1, none⟩ = some (.string (g 1)) := h1.cell 1
    have q2 : W.cell? ⟨w.heap.size, 2, none⟩ = some (.string (g 2)) := h1.cell 2
    have q3 : W.cell? ⟨w.heap.size, 3, none⟩ = some (.string (g 3)) := h1.cell 3
    have q4 : W.cell? ⟨w.heap.size, 4, none⟩ = some (.string (g 4)) := h1.cell 4
    have q5 : W.cell? ⟨w.heap.size, 5, none⟩ = some (.string (g 5)) := h1.cell 5
    have q6 : W.cell? ⟨w.heap.size, 6, none⟩ = some (.string (g 6)) := h1.cell 6
    have q7 : W.cell? ⟨w.heap.size, 7, none⟩ = some (.string (g 7)) := h1.cell 7
    have q8 : W.cell? ⟨w.heap.size, 8, none⟩ = some (.string (g 8)) := h1.cell 8
    gi_wp2
    refine ⟨trivial, ?_⟩
    refine CallsIn.inRound l (callsIn_wide.2 ((source_c g p hp9 W).mono ?_))
    rintro e W2 ⟨rfl, hb2⟩
    rw [HSR.out]
    have k1 := h1.keep hb2
    have k2 := h2.keep hb2
    have hz1 := h3.size
    have k3 : Below w.heap.size w W2 := h3.trans (hb2.mono hz1)
    have kf := k1.frozen p
    have kc : W2.cell? ⟨w.heap.size, p, none⟩ = some (.string (g p)) := (k1.cell p).trans hpc
    have kl := k1.lt
    clear q0 q1 q2 q3 q4 q5 q6 q7 q8
    gi_wp2
    refine ⟨(keepsFrom_below hb2).trans ((KeepsOthers.setCell _ _ _).from _), KeepsIn.zero (by simp [World.size_setCell]; exact hb2.size), ?_, k2.far (by simp) _, k3.setCell (Nat.le_refl _) _⟩
    rw [HL.out, ← HMS.out]
    exact k1.set p _
  · intro D W hD hI hd
    obtain ⟨h1, h2, h3⟩ := hI
    have hl1 := h1.lt
    have hl2 := h2.lt
    have h1' : At W w.heap.size 63 (tabA (mix f 9)) := h1
    clear h1
    generalize hg9 : mix f 9 = g9 at *
    have hDD : w.heap.size + 2 ≤ D := by simpa [World.size_alloc] using hD

    have q0 : W.cell? ⟨w.heap.size, 0, none⟩ = some (.string (g9 0)) := h1'.cell 0
    have q1 : W.cell? ⟨w.heap.size, 1, none⟩ = some (.string (g9 1)) := h1'.cell 1
    have q2 : W.cell? ⟨w.heap.size, 2, none⟩ = some (.string (g9 2)) := h1'.cell 2
    have q3 : W.cell? ⟨w.heap.size, 3, none⟩ = some (.string (g9 3)) := h1'.cell 3
    have q4 : W.cell? ⟨w.heap.size, 4, none⟩ = some (.string (g9 4)) := h1'.cell 4
    have q5 : W.cell? ⟨w.heap.size, 5, none⟩ = some (.string (g9 5)) := h1'.cell 5
    have q6 : W.cell? ⟨w.heap.size, 6, none⟩ = some (.string (g9 6)) := h1'.cell 6
    have q7 : W.cell? ⟨w.heap.size, 7, none⟩ = some (.string (g9 7)) := h1'.cell 7
    have q8 : W.cell? ⟨w.heap.size, 8, none⟩ = some (.string (g9 8)) := h1'.cell 8
    have p0 : W.cell? ⟨w.heap.size + 1, 0, none⟩ = some (.string ⟨#[]⟩) := h2.cell 0
    have p1 : W.cell? ⟨w.heap.size + 1, 1, none⟩ = some (.string ⟨#[]⟩) := h2.cell 1
    have p2 : W.cell? ⟨w.heap.size + 1, 2, none⟩ = some (.string ⟨#[]⟩) := h2.cell 2
    have p3 : W.cell? ⟨w.heap.size + 1, 3, none⟩ = some (.string ⟨#[]⟩) := h2.cell 3
    have p4 : W.cell? ⟨w.heap.size + 1, 4, none⟩ = some (.string ⟨#[]⟩) := h2.cell 4
    have p5 : W.cell? ⟨w.heap.size + 1, 5, none⟩ = some (.string ⟨#[]⟩) := h2.cell 5
    have p6 : W.cell? ⟨w.heap.size + 1, 6, none⟩ = some (.string ⟨#[]⟩) := h2.cell 6
    have p7 : W.cell? ⟨w.heap.size + 1, 7, none⟩ = some (.string ⟨#[]⟩) := h2.cell 7
    have p8 : W.cell? ⟨w.heap.size + 1, 8, none⟩ = some (.string ⟨#[]⟩) := h2.cell 8
    have z0 : W.frozen? ⟨w.heap.size + 1, 0, none⟩ = false := h2.frozen 0
    have z1 : W.frozen? ⟨w.heap.size + 1, 1, none⟩ = false := h2.frozen 1
    have z2 : W.frozen? ⟨w.heap.size + 1, 2, none⟩ = false := h2.frozen 2
    have z3 : W.frozen? ⟨w.heap.size + 1, 3, none⟩ = false := h2.frozen 3
    have z4 : W.frozen? ⟨w.heap.size + 1, 4, none⟩ = false := h2.frozen 4
    have z5 : W.frozen? ⟨w.heap.size + 1, 5, none⟩ = false := h2.frozen 5
    have z6 : W.frozen? ⟨w.heap.size + 1, 6, none⟩ = false := h2.frozen 6
    have z7 : W.frozen? ⟨w.heap.size + 1, 7, none⟩ = false := h2.frozen 7
    have z8 : W.frozen? ⟨w.heap.size + 1, 8, none⟩ = false := h2.frozen 8
    obtain ⟨W9, hW9⟩ : ∃ W9 : World, W9 = (((((((((W.setCell ⟨w.heap.size + 1, 0, none⟩ (.string (g9 0))).setCell ⟨w.heap.size + 1, 1, none⟩ (.string (g9 1))).setCell ⟨w.heap.size + 1, 2, none⟩ (.string (g9 2))).setCell ⟨w.heap.size + 1, 3, none⟩ (.string (g9 3))).setCell ⟨w.heap.size + 1, 4, none⟩ (.string (g9 4))).setCell ⟨w.heap.size + 1, 5, none⟩ (.string (g9 5))).setCell ⟨w.heap.size + 1, 6, none⟩ (.string (g9 6))).setCell ⟨w.heap.size + 1, 7, none⟩ (.string (g9 7))).setCell ⟨w.heap.size + 1, 8, none⟩ (.string (g9 8))) := ⟨_, rfl⟩
    have a9 : At W9 (w.heap.size + 1) 63 (tabA g9) := by rw [hW9]; exact At.set9 g9 h2
    have b9 : Below w.heap.size w W9 := by
      rw [hW9]
      repeat refine Below.setCell ?_ (Nat.le_succ _) _
      exact h3
    have d9 : W9.heap[D]? = some (.deferred (some [])) := by
      rw [hW9]
      repeat rw [Below.heap_setCell _ _ _ D (by show D ≠ w.heap.size + 1; omega)]
      exact hd
    gi_wp2
    rw [← hW9]
    have fin : LeavesInM Fence.wide 5 Tryd.prog Tryd.f93 #[tabX f, .pointer (some ⟨w.heap.size, 0, none⟩), .pointer (some ⟨w.heap.size + 1, 0, none⟩), undef, .func (.func 88) #[.int .i64 9] #[], undef, undef, undef, undef, undef, undef, tabX g9]
        (fun e w' => e = Ending.returned (tabX (mix f 9)) ∧ Below w.heap.size w w') [] .returning (W9.putObj D (.deferred none)) := by
      clear hW9 hd hD
      exact ⟨_, results_src _ (w.heap.size + 1) g9 ((World.putObj_heap_other (by omega)).trans a9) _ rfl, by rw [hg9], b9.trans ⟨rfl, rfl, rfl, by simp [World.putObj], fun k hk => World.putObj_heap_other (by omega)⟩⟩
    exact ⟨by simp, .inl ⟨D, _, rfl, run_takeDeferred d9, fin⟩⟩
  · intro _ _ _ _ _ _ hf
    exact hf.elim
end Go.Proofs.YtcpibkffeenehaaDoor
namespace Go.Proofs.YtcpibkffeenehaaDoor
open Go.RowKit Go.PM

set_option maxRecDepth 100000 in
set_option maxHeartbeats 1000000 in
theorem l1Busy_c (xs : List Mv) (v : Value) (w : World) (hx : RdM w v xs) :
    Calls Tryd.prog 81 #[v] w fun e w' => ∃ v', e = .returned v' ∧ w'.ownsRow w.heap.size 60 2 v' (busyF xs 9).length (mcells (busyF xs 9)) ∧ Below w.heap.size w w' := by
  have HN : Hid (∀ q, q < 9 → (ByteArray.mk #[97, 98, 99, 100, 101, 102, 65, 66, 67]).extract q (q+1) = nm q) := by
    show ∀ q, _
    intro q hq
    match q, hq with
    | 0, _ | 1, _ | 2, _ | 3, _ | 4, _ | 5, _ | 6, _ | 7, _ | 8, _ => decide +kernel
  have HS := Lib.hid (fun W (hW : RdM W v xs) (p : Nat) => l1Source_c xs v (nm p) W hW)
  have HX := Lib.hid (fun W (hW : Below w.heap.size w W) => hx.below hW)
  have hE := World.ownsRow_lit (e := 60) (base := w.heap.size) (size := 2) w #[] 0 (Nat.le_refl _) (Nat.zero_le _) rfl
  go_enter Tryd.func81, Tryd.ntmps81
  go_wp2
  go_loopw [3, 8] (fun o i wr => ∃ (k : Nat), k ≤ 9 ∧ i = .int .i64 k ∧ wr.ownsRow w.heap.size 60 2 o (busyF xs k).length (mcells (busyF xs k)) ∧ Below w.heap.size w wr) (fun _ i _ => 9 - (intOf i).toNat)
  case atStart => exact ⟨0, by omega, rfl, hE, by (repeat' (first | (with_reducible exact Below.refl _ _) | (with_reducible assumption) | (with_reducible refine Below.alloc ?_ ?_ _) | (with_reducible refine Below.drew ?_) | (with_reducible refine Below.setCell ?_ ?_ _) | (with_reducible exact Nat.le_refl _) | omega | ((repeat (first | rewrite [World.size_alloc] | rewrite [World.size_setCell] | rewrite [World.size_drew])); omega) | (simp; omega) | (simp; done)))⟩
  case round =>
    obtain ⟨k, hk, rfl, ho, hb⟩ := hrel
    have hbs := hb.size
    by_cases hlt : k < 9
    · have hex := HN.out k hlt
      have hxr := HX.out wr hb
      have HY := Lib.hid (busyF_yes xs k)
      have HZ := Lib.hid (busyF_no xs k)
      have HH := Lib.hid (show busyH xs k = decide (srcM xs (nm k) ≠ nm k) from rfl)
      have hle := busyF_len xs k
      have hcall := HS.out wr hxr k
      have HC := Lib.hid hcall
      clear hcall
      generalize srcM xs (nm k) = sk at *
      generalize nm k = q at *
      go_wp2_with fail
      refine HC.out.mono ?_
      rintro e w2 ⟨rfl, hb2⟩
      have hb2s := hb2.size
      have ho2 := own_keep ho hb2
      have hbw := hb.trans (hb2.mono hbs)
      have hbws := hbw.size
      have hnw := two_new w2 (.string q) (.string sk) 60
      go_wp2_with (at_builtin; refine app_mv rfl (.tmp 21) (.tmp 25) rfl w.heap.size u3 (busyF xs k) (q, sk) ⟨w2.heap.size, 0, none⟩ 1 (by rfl) (by rfl) ?hown ?hnew ?hlen ?hbase ?_; rotate_left 4; intro v' w3 hown3 hgrow3)
      case hown => exact own_keep ho2 ((Below.refl _ _).alloc (Nat.le_refl _) _)
      try case hnew => exact hnw
      case hlen => omega
      case hbase => simp; omega
      · have h : (!(sk.toList == q.toList)) = true := by assumption
        rw [bne_str] at h
        have hb3 := below_grown hgrow3 (B := w.heap.size) (by simp; omega) (own_block_ge ho)
        go_roundw
        case rel =>
          refine ⟨k + 1, by omega, by go_num, ?_, ?_⟩
          · rw [HY.out (by rw [HH.out]; exact h)]; exact hown3
          · exact Below.trans (by (repeat' (first | (with_reducible exact Below.refl _ _) | (with_reducible assumption) | (with_reducible refine Below.alloc ?_ ?_ _) | (with_reducible refine Below.drew ?_) | (with_reducible refine Below.setCell ?_ ?_ _) | (with_reducible exact Nat.le_refl _) | omega | ((repeat (first | rewrite [World.size_alloc] | rewrite [World.size_setCell] | rewrite [World.size_drew])); omega) | (simp; omega) | (simp; done)))) hb3
        case measure => simp [intOf]; omega
      · have h : (!(sk.toList == q.toList)) = false := by assumption
        rw [bne_str] at h
        go_roundw
        case rel =>
          refine ⟨k + 1, by omega, by go_num, ?_, by (repeat' (first | (with_reducible exact Below.refl _ _) | (with_reducible assumption) | (with_reducible refine Below.alloc ?_ ?_ _) | (with_reducible refine Below.drew ?_) | (with_reducible refine Below.setCell ?_ ?_ _) | (with_reducible exact Nat.le_refl _) | omega | ((repeat (first | rewrite [World.size_alloc] | rewrite [World.size_setCell] | rewrite [World.size_drew])); omega) | (simp; omega) | (simp; done)))⟩
          rw [HZ.out (by rw [HH.out]; exact h)]; exact ho2
        case measure => simp [intOf]; omega
    · have hk9 : k = 9 := by omega
      subst hk9
      go_wp2
      go_ret
      exact ⟨_, rfl, ho, hb⟩
def countI (xs : List Mv) : Int := if mvalid xs then ((busyF xs 9).length : Int) else -1
set_option maxRecDepth 100000 in
theorem imCountBusy_c (xs : List Mv) (v : Value) (w : World) (hx : RdM w v xs) (hn' : xs.length ≤ 1048576) :
    Calls Tryd.prog 74 #[v] w fun e w' => e = .returned (.int .i64 (countI xs)) ∧ Below w.heap.size w w' := by
  rcases Bool.eq_false_or_eq_true (mvalid xs) with h1 | h1
  · have HO : Hid (((dropM xs).length : Int) = countI xs) := by
      show _ = _
      rw [countI, if_pos h1, dropM, if_pos h1, busy_count (by simpa [mvalid] using h1)]
    go_enter Tryd.func74, Tryd.ntmps74
    go_wp2_with fail
    refine (imDropIdle_c xs v _ hx hn').mono ?_
    rintro e w1 ⟨v', he, ho, hb1⟩
    rw [h1] at he
    subst he
    obtain ⟨A, cap, rfl, _⟩ := Rd.of_own ho
    go_wp2
    go_ret
    exact ⟨by rw [← HO.out]; rfl, hb1⟩
  · have HO : Hid (countI xs = -1) := by show _ = _; rw [countI, h1]; rfl
    go_enter Tryd.func74, Tryd.ntmps74
    go_wp2_with fail
    refine (imDropIdle_c xs v _ hx hn').mono ?_
    rintro e w1 ⟨v', he, ho, hb1⟩
    rw [h1] at he
    subst he
    go_wp2
    go_ret
    exact ⟨by rw [HO.out]; rfl, hb1⟩
end Go.Proofs.YtcpibkffeenehaaDoor
namespace Go.PM
open Go.RowKit
def leafH (f : Nat → ByteArray) (p : Nat) : Bool := decide (srcT f p ≠ nm p) && decide (namesW (rdH f (nm p)) = emp)
def leafM (xs : List Mv) (m : Mv) : Bool := decide (namesW (rsH xs m.1) = emp)
def lvB (xs : List Mv) (ms : List Mv) : ByteArray := ⟨((ms.filter (leafM xs)).flatMap fun m => m.1.data.toList).toArray⟩
theorem lvB_yes (xs ms : List Mv) (m : Mv) (h : leafM xs m = true) : lvB xs (ms ++ [m]) = lvB xs ms ++ m.1 := by
  apply ByteArray.ext
  rw [ByteArray.data_append]
  simp [lvB, h]
theorem lvB_no (xs ms : List Mv) (m : Mv) (h : leafM xs m = false) : lvB xs (ms ++ [m]) = lvB xs ms := by
  simp [lvB, h]
def leavesB (xs : List Mv) : ByteArray := namesW (leafH (tabOf xs))
theorem lvB_all {xs : List Mv} (h : MV xs) : lvB xs (busyF xs 9) = leavesB xs := by
  unfold lvB leavesB namesW namesL busyF
  rw [List.filter_map, List.flatMap_map, List.filter_filter]
  have e1 : ((List.range 9).filter fun p => (leafM xs ∘ fun p => (nm p, srcM xs (nm p))) p && busyH xs p) = (List.range 9).filter (leafH (tabOf xs)) := by
    refine List.filter_congr fun p hp => ?_
    have hp9 : p < 9 := by simpa using hp
    show (leafM xs (nm p, srcM xs (nm p)) && busyH xs p) = leafH (tabOf xs) p
    unfold leafM leafH busyH
    rw [rsH_rdH h, srcM_nm h hp9, Bool.and_comm]
  rw [e1]
  have e2 : ∀ l : List Nat, (l.flatMap fun a => (nm a, srcM xs (nm a)).1.data.toList) = l.map (placesL.getD · 0) := by
    intro l
    induction l with
    | nil => rfl
    | cons a l ih => rw [List.flatMap_cons, ih]; rfl
  rw [e2]
theorem emp_iff (s : ByteArray) : s.toList.isEmpty = decide (s = emp) := by
  rw [ByteArray.toList_eq]
  by_cases h : s = emp
  · subst h; simp
  · cases hl : s.data.toList with
    | nil => exact absurd (Go.WideShapes.bytes_inj (by rw [hl])) h
    | cons a l => simp [h]
theorem busyF_one (xs : List Mv) (k : Nat) (hk : k < (busyF xs 9).length) : (busyF xs 9)[k].1.size = 1 := by
  have := List.getElem_mem hk
  unfold busyF at this
  obtain ⟨p, _, e⟩ := List.mem_map.1 this
  have : (busyF xs 9)[k].1 = nm p := by
    have : (busyF xs 9)[k] = (nm p, srcM xs (nm p)) := e.symm
    rw [this]
  rw [this]; rfl
end Go.PM
namespace Go.Proofs.YtcpibkffeenehaaDoor
open Go.RowKit Go.PM

end Go.Proofs.YtcpibkffeenehaaDoor
namespace Go.PM
open Go.RowKit
theorem namesW_emp {h : Nat → Bool} : namesW h = emp ↔ ∀ p, p < 9 → h p = false := by
  have e : namesW h = emp ↔ (List.range 9).filter h = [] := by
    constructor
    · intro e
      have := congrArg (fun s => s.data.toList.length) e
      simp only [namesW, namesL, List.length_map] at this
      exact List.length_eq_zero_iff.1 this
    · intro e
      rw [namesW, namesL, e]; rfl
  rw [e, List.filter_eq_nil_iff]
  constructor
  · intro g p hp; simpa using g p (by simpa using hp)
  · intro g p hp; simpa using g p (by simpa using hp)
theorem namesW_one {p0 : Nat} (h0 : p0 < 9) : namesW (fun p => decide (p = p0)) = nm p0 := by
  match p0, h0 with
  | 0, _ | 1, _ | 2, _ | 3, _ | 4, _ | 5, _ | 6, _ | 7, _ | 8, _ => decide +kernel
/-- each place is the source of one -/
def Exch (S : Nat → ByteArray) : Prop := ∀ q, q < 9 → ∃ p, p < 9 ∧ S p = nm q
theorem leaf_exch (f : Nat → ByteArray) : namesW (leafH f) = emp ↔ Exch (srcT f) := by
  rw [namesW_emp]
  constructor
  · intro h q hq
    have h1 := h q hq
    unfold leafH at h1
    by_cases h2 : srcT f q = nm q
    · exact ⟨q, hq, h2⟩
    · have h3 : ¬ namesW (rdH f (nm q)) = emp := by simpa [h2] using h1
      rw [namesW_emp] at h3
      obtain ⟨p, h4⟩ := Classical.not_forall.1 h3
      obtain ⟨hp, h5⟩ := Classical.not_imp.1 h4
      have h6 : rdH f (nm q) p = true := by simpa using h5
      unfold rdH at h6
      rw [Bool.and_eq_true] at h6
      exact ⟨p, hp, by simpa using h6.2⟩
  · intro h q hq
    obtain ⟨p, hp, e⟩ := h q hq
    unfold leafH
    by_cases h2 : srcT f q = nm q
    · simp [h2]
    · have hne : nm p ≠ nm q := fun e2 => by
        have := nm_inj hp hq e2
        subst this; exact h2 e
      have : namesW (rdH f (nm q)) ≠ emp := fun h3 => by
        have := namesW_emp.1 h3 p hp
        unfold rdH at this
        simp [hne, e] at this
      simp [this]
theorem Exch.congr {S T : Nat → ByteArray} (h : ∀ p, p < 9 → S p = T p) (e : Exch S) : Exch T := fun q hq => by
  obtain ⟨p, hp, e1⟩ := e q hq
  exact ⟨p, hp, (h p hp).symm.trans e1⟩
theorem exch_drop {S : Nat → ByteArray} {p' : Nat} (hp' : p' < 9) (h : ∀ q, q < 9 → ∃ p, p < 9 ∧ p ≠ p' ∧ S p = nm q) : False := by
  have n1 : ((List.range 9).map nm).Nodup := by decide +kernel
  have h1 := nodup_le ((List.range 9).map nm) (((List.range 9).erase p').map S) n1 (fun a ha => by
    obtain ⟨q, hq, rfl⟩ := List.mem_map.1 ha
    obtain ⟨p, hp, hne, e⟩ := h q (by simpa using hq)
    exact List.mem_map.2 ⟨p, (List.mem_erase_of_ne hne).2 (by simpa using hp), e⟩)
  have h2 := List.length_erase_of_mem (show p' ∈ List.range 9 by simpa using hp')
  simp only [List.length_map, List.length_range] at h1 h2
  omega
theorem Exch.inj {S : Nat → ByteArray} (h : Exch S) {p p' : Nat} (hp : p < 9) (hp' : p' < 9) (e : S p = S p') : p = p' := by
  rcases Nat.decEq p p' with hne | he
  · exfalso
    refine exch_drop (S := S) hp' fun q hq => ?_
    obtain ⟨r, hr, e1⟩ := h q hq
    by_cases h1 : r = p'
    · subst h1; exact ⟨p, hp, hne, e.trans e1⟩
    · exact ⟨r, hr, h1, e1⟩
  · exact he
theorem Exch.place {S : Nat → ByteArray} (h : Exch S) {p : Nat} (hp : p < 9) : isP (S p) = true := by
  rcases Bool.eq_false_or_eq_true (isP (S p)) with h1 | h1
  · exact h1
  · exfalso
    refine exch_drop (S := S) hp fun q hq => ?_
    obtain ⟨r, hr, e1⟩ := h q hq
    refine ⟨r, hr, fun e => ?_, e1⟩
    subst e
    rw [e1, isP_nm hq] at h1
    cases h1
/-- the place that has q as its source -/
def invI (S : Nat → ByteArray) (q : Nat) : Nat := ((List.range 9).find? fun p => decide (S p = nm q)).getD 0
def invF (S : Nat → ByteArray) (q : Nat) : ByteArray := nm (invI S q)
theorem Exch.inv {S : Nat → ByteArray} (h : Exch S) {q : Nat} (hq : q < 9) : invI S q < 9 ∧ S (invI S q) = nm q := by
  obtain ⟨p, hp, e⟩ := h q hq
  unfold invI
  cases hf : (List.range 9).find? (fun p => decide (S p = nm q)) with
  | none => exact absurd (List.find?_eq_none.1 hf p (by simpa using hp)) (by simp [e])
  | some r =>
    have h1 := List.find?_some hf
    have h2 := List.mem_of_find?_eq_some hf
    exact ⟨by simpa using h2, by simpa using h1⟩
theorem Exch.inv_iff {S : Nat → ByteArray} (h : Exch S) {q p : Nat} (hq : q < 9) (hp : p < 9) : S p = nm q ↔ p = invI S q := by
  have h1 := h.inv hq
  exact ⟨fun e => h.inj hp h1.1 (e.trans h1.2.symm), fun e => by rw [e]; exact h1.2⟩
theorem invI_congr {S T : Nat → ByteArray} (h : ∀ p, p < 9 → S p = T p) (q : Nat) : invI S q = invI T q := by
  have key : ∀ l : List Nat, (∀ p ∈ l, p < 9) → l.find? (fun p => decide (S p = nm q)) = l.find? (fun p => decide (T p = nm q)) := by
    intro l
    induction l with
    | nil => intro _; rfl
    | cons a l ih =>
      intro hl
      rw [List.find?_cons, List.find?_cons, h a (hl a (by simp)), ih (fun p hp => hl p (by simp [hp]))]
  unfold invI
  rw [key _ (fun p hp => by simpa using hp)]

/-- impl's table of what gives all back, of the first k places -/
def bkF (f : Nat → ByteArray) : Nat → Nat → ByteArray
  | 0 => fun _ => emp
  | k + 1 => upd (bkF f k) (pidx (srcT f k)) (nm k)
theorem bkF_at {f : Nat → ByteArray} (h : Exch (srcT f)) : ∀ k, k ≤ 9 → ∀ p, p < k → bkF f k (pidx (srcT f p)) = nm p := by
  intro k
  induction k with
  | zero => intro _ p hp; omega
  | succ k ih =>
    intro hk p hp
    show upd (bkF f k) (pidx (srcT f k)) (nm k) (pidx (srcT f p)) = nm p
    unfold upd
    by_cases e : pidx (srcT f p) = pidx (srcT f k)
    · rw [if_pos e]
      have h1 := pidx_spec (h.place (p := p) (by omega))
      have h2 := pidx_spec (h.place (p := k) (by omega))
      have : srcT f p = srcT f k := by rw [← h1.2, ← h2.2, e]
      rw [h.inj (by omega) (by omega) this]
    · rw [if_neg e]
      rcases Nat.lt_or_ge p k with h1 | h1
      · exact ih (by omega) p h1
      · have : p = k := by omega
        subst this; exact absurd rfl e
theorem bkF_inv {f : Nat → ByteArray} (h : Exch (srcT f)) {q : Nat} (hq : q < 9) : srcT (bkF f 9) q = invF (srcT f) q := by
  have h1 := h.inv hq
  have h2 := bkF_at h 9 (Nat.le_refl _) _ h1.1
  rw [h1.2, pidx_nm hq] at h2
  show (if bkF f 9 q = emp then nm q else bkF f 9 q) = _
  rw [h2, if_neg (nm_ne _)]; rfl
/-- spec's list of readers, of the first k places -/
def unH (xs : List Mv) (q : Nat) : Bool := decide (namesW (rsH xs (nm q)) ≠ emp)
def unL (xs : List Mv) (k : Nat) : List Mv := ((List.range k).filter (unH xs)).map fun q => (nm q, namesW (rsH xs (nm q)))
theorem unL_yes (xs : List Mv) (k : Nat) (h : unH xs k = true) : unL xs (k + 1) = unL xs k ++ [(nm k, namesW (rsH xs (nm k)))] := by
  simp [unL, List.range_succ, h]
theorem unL_no (xs : List Mv) (k : Nat) (h : unH xs k = false) : unL xs (k + 1) = unL xs k := by
  simp [unL, List.range_succ, h]
theorem unL_len (xs : List Mv) (k : Nat) : (unL xs k).length ≤ k := by
  unfold unL
  rw [List.length_map]
  have := List.length_filter_le (unH xs) (List.range k)
  simpa using this
theorem rs_inv {xs : List Mv} (h : Exch fun p => srcM xs (nm p)) {q : Nat} (hq : q < 9) :
    namesW (rsH xs (nm q)) = if invI (fun p => srcM xs (nm p)) q = q then emp else invF (fun p => srcM xs (nm p)) q := by
  have h1 := h.inv hq
  have e : ∀ p, p < 9 → rsH xs (nm q) p = (decide (p ≠ q) && decide (p = invI (fun p => srcM xs (nm p)) q)) := fun p hp => by
    unfold rsH
    congr 1
    · exact decide_eq_decide.2 ⟨fun hne e => hne (by rw [e]), fun hne e => hne (nm_inj hp hq e)⟩
    · exact decide_eq_decide.2 (h.inv_iff hq hp)
  rw [namesW_congr e]
  by_cases h2 : invI (fun p => srcM xs (nm p)) q = q
  · rw [if_pos h2, h2]
    refine namesW_emp.2 fun p _ => ?_
    by_cases h3 : p = q <;> simp [h3]
  · rw [if_neg h2]
    refine (namesW_congr (g := fun p => decide (p = invI (fun p => srcM xs (nm p)) q)) fun p _ => ?_).trans (namesW_one h1.1)
    by_cases h3 : p = invI (fun p => srcM xs (nm p)) q
    · rw [h3]; simp [h2]
    · simp [h3]
theorem unL_inv {xs : List Mv} (h : Exch fun p => srcM xs (nm p)) : unL xs 9 = lsF (invF fun p => srcM xs (nm p)) 9 := by
  have e : (List.range 9).filter (unH xs) = (List.range 9).filter (lsH (invF fun p => srcM xs (nm p))) := List.filter_congr fun q hq => by
    have hq : q < 9 := by simpa using hq
    unfold unH lsH
    rw [rs_inv h hq]
    by_cases h2 : invI (fun p => srcM xs (nm p)) q = q
    · rw [if_pos h2]; unfold invF; rw [h2]; simp
    · rw [if_neg h2]
      have h3 : invF (fun p => srcM xs (nm p)) q ≠ nm q := fun e => h2 (nm_inj (h.inv hq).1 hq e)
      have h4 : invF (fun p => srcM xs (nm p)) q ≠ emp := nm_ne _
      simp [h3, h4]
  unfold unL lsF
  rw [e]
  refine List.map_congr_left fun q hq => ?_
  obtain ⟨h1, h2⟩ := List.mem_filter.1 hq
  have hq : q < 9 := by simpa using h1
  unfold lsH at h2
  have h2 : invF (fun p => srcM xs (nm p)) q ≠ nm q := by simpa using h2
  rw [rs_inv h hq, if_neg]
  intro e
  exact h2 (by unfold invF; rw [e])
/-- what the functions answer -/
def exchB (xs : List Mv) : Bool := mvalid xs && decide (leavesB xs = emp)
theorem exchB_iff {xs : List Mv} : exchB xs = true ↔ MV xs ∧ Exch (srcT (tabOf xs)) := by
  unfold exchB leavesB
  rw [Bool.and_eq_true, decide_eq_true_eq, leaf_exch]
  simp [mvalid]
theorem exchB_M {xs : List Mv} (h : exchB xs = true) : Exch fun p => srcM xs (nm p) := by
  obtain ⟨h1, h2⟩ := exchB_iff.1 h
  exact h2.congr fun p hp => srcT_M h1 hp
def undoM (xs : List Mv) : List Mv := if exchB xs then lsF (invF fun p => srcM xs (nm p)) 9 else []
theorem undoM_tab {xs : List Mv} (h : exchB xs = true) : mvT (noIdle (bkF (tabOf xs) 9)) (List.range 9) = undoM xs := by
  obtain ⟨h1, h2⟩ := exchB_iff.1 h
  rw [undoM, if_pos h, mvT_idle]
  refine lsF_congr fun q hq => ?_
  rw [bkF_inv h2 hq, invF, invF, invI_congr (fun p hp => srcT_M h1 hp)]
def lostH (xs : List Mv) (p : Nat) : Bool := decide (srcM xs (nm p) ≠ nm p) && decide (namesW (rsH xs (nm p)) = emp)
theorem lost_leaf {xs : List Mv} (h : MV xs) : namesW (lostH xs) = leavesB xs := by
  refine namesW_congr fun p hp => ?_
  unfold lostH leafH
  rw [rsH_rdH h, srcM_nm h hp]
end Go.PM
namespace Go.PM
open Go.RowKit
/-- a table of which the first k places have turned -/
def mixG (h f : Nat → ByteArray) (k : Nat) : Nat → ByteArray := fun q => if q < k then h q else f q
theorem mixG_zero (h f : Nat → ByteArray) : mixG h f 0 = f := by funext q; simp [mixG]
theorem mixG_at (h f : Nat → ByteArray) (k : Nat) : mixG h f k k = f k := by simp [mixG]
theorem mixG_src (h f : Nat → ByteArray) (k : Nat) : srcT (mixG h f k) k = srcT f k := by simp [srcT, mixG]
theorem mixG_set (h f : Nat → ByteArray) (k : Nat) (hk : k < 9) : (tabA (mixG h f k)).setIfInBounds k (.string (h k)) = tabA (mixG h f (k + 1)) := by
  have h1 := tabC_set (mixG h f k) k hk (h k)
  have e : (fun q => if q = k then h k else mixG h f k q) = mixG h f (k + 1) := by
    funext q
    by_cases hq : q = k
    · subst hq; simp [mixG]
    · by_cases h2 : q < k
      · simp [mixG, hq, h2, Nat.lt_succ_of_lt h2]
      · have : ¬ q < k + 1 := by omega
        simp [mixG, hq, h2, this]
  rw [e] at h1
  exact h1
theorem mixG_same (h f : Nat → ByteArray) (k : Nat) (e : h k = f k) : mixG h f (k + 1) = mixG h f k := by
  funext q
  by_cases hq : q = k
  · subst hq; simp [mixG, e]
  · by_cases h2 : q < k
    · simp [mixG, h2, Nat.lt_succ_of_lt h2]
    · have : ¬ q < k + 1 := by omega
      simp [mixG, h2, this]
theorem tabC_all (f : Nat → ByteArray) : (tabC f).all (·.oneCell') = true := by simp [tabC, Value.oneCell']
theorem tabX_mixG (h f : Nat → ByteArray) : tabX (mixG h f 9) = tabX h := rfl
end Go.PM
namespace Go.Proofs.YtcpibkffeenehaaDoor
open Go.RowKit Go.PM Go.Lib
attribute [local go_sem] Oper.semAt_some

set_option maxRecDepth 100000 in
theorem behind_c (f : Nat → ByteArray) (s : ByteArray) (_hs : isS s = true) (w : World) :
    Calls Tryd.prog 86 #[tabX f, .string s] w fun e w' => e = .returned (.string (behF f s)) ∧ Below w.heap.size w w' := by
  have HO : Hid (behF f s = if isP s then srcT f (pidx s) else s) := rfl
  have q : At (w.alloc (.cells (tabA f) 63)) w.heap.size 63 (tabA f) := At.new w _ _
  have q0 : (w.alloc (.cells (tabA f) 63)).cell? ⟨w.heap.size, 0, none⟩ = some (.string (f 0)) := q.cell 0
  have q1 : (w.alloc (.cells (tabA f) 63)).cell? ⟨w.heap.size, 1, none⟩ = some (.string (f 1)) := q.cell 1
  have q2 : (w.alloc (.cells (tabA f) 63)).cell? ⟨w.heap.size, 2, none⟩ = some (.string (f 2)) := q.cell 2
  have q3 : (w.alloc (.cells (tabA f) 63)).cell? ⟨w.heap.size, 3, none⟩ = some (.string (f 3)) := q.cell 3
  have q4 : (w.alloc (.cells (tabA f) 63)).cell? ⟨w.heap.size, 4, none⟩ = some (.string (f 4)) := q.cell 4
  have q5 : (w.alloc (.cells (tabA f) 63)).cell? ⟨w.heap.size, 5, none⟩ = some (.string (f 5)) := q.cell 5
  have q6 : (w.alloc (.cells (tabA f) 63)).cell? ⟨w.heap.size, 6, none⟩ = some (.string (f 6)) := q.cell 6
  have q7 : (w.alloc (.cells (tabA f) 63)).cell? ⟨w.heap.size, 7, none⟩ = some (.string (f 7)) := q.cell 7
  have q8 : (w.alloc (.cells (tabA f) 63)).cell? ⟨w.heap.size, 8, none⟩ = some (.string (f 8)) := q.cell 8
  rcases Bool.eq_false_or_eq_true (isP s) with h1 | h1
  · have hp := (pidx_spec h1).1
    go_enter Tryd.func86, Tryd.ntmps86
    go_wp2_with fail
    refine (indexOf_yes s h1 _).mono ?_
    rintro e w' ⟨rfl, rfl⟩
    go_wp2_with (go_at_call 90; refine (source_c f (pidx s) hp _).mono ?_; rintro e w2 ⟨rfl, hb2⟩)
    have hb3 := ((Below.refl w.heap.size w).alloc (Nat.le_refl _) (.cells (tabA f) 63)).trans (hb2.mono (by simp [World.size_alloc]))
    clear hb2 q q0 q1 q2 q3 q4 q5 q6 q7 q8
    go_ret
    exact ⟨by rw [HO.out, h1]; rfl, hb3⟩
  · go_enter Tryd.func86, Tryd.ntmps86
    go_wp2_with fail
    refine (indexOf_no s h1 _).mono ?_
    rintro e w' ⟨rfl, rfl⟩
    go_wp2
    go_ret
    exact ⟨by rw [HO.out, h1]; rfl, (Below.refl _ _).alloc (Nat.le_refl _) _⟩
set_option maxRecDepth 100000 in
set_option maxHeartbeats 4000000 in
theorem then_c (f g : Nat → ByteArray) (hg : SVal (srcT g)) (w : World) :
    Calls Tryd.prog 60 #[tabX f, tabX g] w fun e w' => e = .returned (tabX (mixG (thenF f g) g 9)) ∧ Below w.heap.size w w' := by
  refine (callsIn_wide (n := 5)).1 ?_
  refine callsIn_of_wp_marks Tryd.func60 rfl trivial ?_ rfl
  simp only [Tryd.ntmps60, List.size_toArray, List.length_cons, List.length_nil, Nat.reduceAdd, Nat.reduceSub, Array.replicate_succ, Array.replicate_zero, List.push_toArray, List.append_toArray, List.nil_append, List.cons_append]
  gi_wp2
  obtain ⟨W0, hW0⟩ : ∃ W0 : World, W0 = ((w.alloc (.cells (tabA f) 63)).alloc (.cells (tabA g) 63)).alloc (.cells zA 63) := ⟨_, rfl⟩
  have hS0 : W0.heap.size = w.heap.size + 3 := by rw [hW0]; simp only [World.size_alloc]
  have hB0 : Below w.heap.size w W0 := by rw [hW0]; (repeat' (first | (with_reducible exact Below.refl _ _) | (with_reducible assumption) | (with_reducible refine Below.alloc ?_ ?_ _) | (with_reducible refine Below.drew ?_) | (with_reducible refine Below.setCell ?_ ?_ _) | (with_reducible exact Nat.le_refl _) | omega | ((repeat (first | rewrite [World.size_alloc] | rewrite [World.size_setCell] | rewrite [World.size_drew])); omega) | (simp; omega) | (simp; done)))
  have hA0 : At W0 w.heap.size 63 (tabA f) := by rw [hW0]; exact ((At.new _ _ _).alloc _).alloc _
  have hA1 : At W0 (w.heap.size + 1) 63 (tabA g) := by
    rw [hW0]; have := (At.new (w.alloc (.cells (tabA f) 63)) 63 (tabA g)).alloc (.cells zA 63)
    rwa [World.size_alloc] at this
  have hA2 : At W0 (w.heap.size + 1 + 1) 63 zA := by
    rw [hW0]; have := At.new ((w.alloc (.cells (tabA f) 63)).alloc (.cells (tabA g) 63)) 63 zA
    rwa [World.size_alloc, World.size_alloc] at this
  rw [← hW0]
  clear hW0
  refine range_law (F := Fence.wide) (gf := 88) (lf := #[.int .i64 9]) (lb := #[]) rfl (by decide) rfl trivial (fun args w => rfl) (encs := fun p : Nat => #[.int .i64 p]) (xs := List.range 9)
    (below_iter _ _ trivial rfl (by decide)) (fun _ => rfl)
    (fun pre W => At W (w.heap.size + 1) 63 (tabA (mixG (thenF f g) g pre.length)) ∧ At W (w.heap.size + 1 + 1) 63 zA ∧ Below w.heap.size w W ∧ At W w.heap.size 63 (tabA f))
    (fun _ _ _ => False) ?_ (fun _ => ownFrom_pure _ _) ?_ (fun p => { tmps := #[tabX f, tabX g, .pointer (some ⟨w.heap.size, 0, none⟩), .pointer (some ⟨w.heap.size + 1, 0, none⟩), .pointer (some ⟨w.heap.size + 1 + 1, 0, none⟩), .int .i64 p, .func (.func 88) #[.int .i64 9] #[], .int .i64 p, undef, undef, undef, undef, undef, undef, undef, undef], defers := [] }) ?_ ?_ ?_ ?_
  · rintro s A A' row ⟨h1, h2, h3, h4⟩ hg hr
    have hr' : ∀ r, row = some r → w.heap.size + 3 ≤ r := fun r e => by have := (hr r e).1; omega
    refine ⟨(hg.block _ h1.lt (fun e => ?_)).trans h1, (hg.block _ h2.lt (fun e => ?_)).trans h2, h3.trans (below_grown hg h3.size (fun g e => ?_)), (hg.block _ h4.lt (fun e => ?_)).trans h4⟩
    · have := hr' _ e.symm; omega
    · have := hr' _ e.symm; omega
    · have := hr' _ e; omega
    · have := hr' _ e.symm; omega
  · refine ⟨?_, hA2, hB0, hA0⟩
    rw [List.length_nil, mixG_zero]
    exact hA1
  · intro l p W Kc hK
    gi_wp2
    exact hK
  · clear hA0 hA1 hA2 hB0
    rintro l pre p W ⟨h1, h2, h3, h4⟩ hp hsz
    obtain ⟨hl, hp9⟩ := pre_len pre p hp
    rw [hl] at h1
    have HL : Hid ((pre ++ [p]).length = p + 1) := by show _ = _; simp [hl]
    have HMS := Lib.hid (mixG_set (thenF f g) g p hp9)
    have HTF : Hid (thenF f g p = behF f (srcT g p)) := rfl
    have hsrc := fun (x : Ext W.drew.heap.size W.drew) => source_c (mixG (thenF f g) g p) p hp9 x.val
    rw [mixG_src] at hsrc
    have hbeh := fun (x : Ext W.drew.heap.size W.drew) => behind_c f (srcT g p) (hg p hp9) x.val
    rw [← HTF.out] at hbeh
    clear hl
    have hpc : (tabA (mixG (thenF f g) g p))[p]? = some (.string (mixG (thenF f g) g p p)) := tabC_at _ p hp9
    generalize thenF f g p = sv at *
    generalize srcT g p = sg at *
    generalize hgm : mixG (thenF f g) g p = g' at *
    have i0 : (0 : Int) ≤ (p : Int) := by omega
    have i1 : (p : Int) < 9 := by omega
    have l1 := h1.lt
    have l4 := h4.lt
    have hC1 := At.ext (W := W.drew) (B := W.drew.heap.size) h4 l4
    have hC2 := At.ext (W := W.drew) (B := W.drew.heap.size) h1 l1
    gi_wp2
    refine region_tail_inRound (F := Fence.wide) (C := fun w' => ∃ x : Ext W.drew.heap.size W.drew, w' = x.val) 7 rfl (by kernel_rfl) (by kernel_rfl) (by kernel_rfl) ⟨⟨_, Below.refl _ _⟩, rfl⟩ ?_
    simp only [List.take_succ_cons, List.take_zero, List.drop_succ_cons, List.drop_zero]
    gi_big_quiet_step (fail)
    refine rowIn_step rfl 63 (.tmp 2) rfl w.heap.size 63 (tabC f) (by rfl) hC1 9 9 Tryd.underlying63 (by kernel_rfl) ?_
    simp only [Act.put, List.setIfInBounds_toArray, List.set_cons_succ, List.set_cons_zero]
    refine rowIn_step rfl 63 (.tmp 3) rfl (w.heap.size + 1) 63 (tabC g') (by rfl) hC2 9 9 Tryd.underlying63 (by kernel_rfl) ?_
    simp only [Act.put, List.setIfInBounds_toArray, List.set_cons_succ, List.set_cons_zero]
    gi_big_quiet_step (fail)
    (refine BigFrame.wpQuietIn_want (fun _ _ _ _ => trivial) rfl (fun K hK => ?_); gi_big_quiet_op; refine ⟨_, fun _ => callsIn_wide.2 (ext_call _ (Nat.le_refl _) (hsrc _)), hK _ ?_⟩; clear hK K)
    (refine BigFrame.wpQuietIn_want (fun _ _ _ _ => trivial) rfl (fun K hK => ?_); gi_big_quiet_op; refine ⟨_, fun _ => callsIn_wide.2 (ext_call _ (Nat.le_refl _) (hbeh _)), hK _ ?_⟩; clear hK K)
    gi_big_quiet_step (fail)
    refine wpQuietIn_nil ?_
    intro w2 hw'
    obtain ⟨xw, hxw⟩ := hw'
    have hb2 := xw.property
    rw [← hxw] at hb2
    clear hxw xw hC1 hC2 hsrc hbeh
    have k1 : At w2 (w.heap.size + 1) 63 (tabA g') := (hb2.block _ l1).trans h1
    have k2 : At w2 (w.heap.size + 1 + 1) 63 zA := (hb2.block _ h2.lt).trans h2
    have k3 : Below w.heap.size w w2 := h3.trans (Below.mono (show Below W.heap.size W w2 from ⟨hb2.os, hb2.tape, hb2.output, hb2.size, hb2.block⟩) h3.size)
    have k4 : At w2 w.heap.size 63 (tabA f) := (hb2.block _ l4).trans h4
    have kf := k1.frozen p
    have kc : w2.cell? ⟨w.heap.size + 1, p, none⟩ = some (.string (g' p)) := (k1.cell p).trans hpc
    have kl := k1.lt
    have kF : KeepsFrom W0.heap.size W w2 := keepsFrom_below (show Below W.heap.size W w2 from ⟨hb2.os, hb2.tape, hb2.output, hb2.size, hb2.block⟩)
    have kS : W.heap.size ≤ w2.heap.size := hb2.size
    clear h1 h2 h3 h4 hb2
    gi_wp2
    refine ⟨kF.trans ((KeepsOthers.setCell _ _ _).from _), KeepsIn.zero (by simp [World.size_setCell]; exact kS), ?_, k2.far (by simp) _, k3.setCell (by show w.heap.size ≤ w.heap.size + 1; omega) _, k4.far (by simp) _⟩
    rw [HL.out, ← HMS.out]
    exact k1.set p _
  · intro D W hD hI hd
    obtain ⟨h1, h2, h3, h4⟩ := hI
    clear hA0 hA1 hA2 hB0 h4
    replace h1 : At W (w.heap.size + 1) 63 (tabC (mixG (thenF f g) g 9)) := h1
    have hl1 := h1.lt
    have hl2 := h2.lt
    have hDD : w.heap.size + 3 ≤ D := by first | omega | simpa [World.size_alloc, Nat.add_assoc] using hD
    generalize hg9 : mixG (thenF f g) g 9 = g9 at *
    have HG9 := Lib.hid hg9
    clear hg9
    gi_wp2_with (first | (refine ldIn_row rfl 63 (.tmp 3) rfl (w.heap.size + 1) 63 (tabC g9) h1 (by rfl) 9 9 Tryd.underlying63 (by kernel_rfl) ?_) | (refine stIn_row rfl 63 (.tmp 4) (.tmp 15) rfl rfl (w.heap.size + 1 + 1) 63 zA (tabC g9) h2 (by rfl) (by rfl) (by kernel_rfl) rfl (tabC_all _) ?_; intro W6 hA6 hg6))
    have d6 : W6.heap[D]? = some (.deferred (some [])) := (hg6.block D (Array.getElem?_eq_some_iff.1 hd).1 (by simp; omega)).trans hd
    have bel : Below w.heap.size w W6 := h3.trans (below_grown hg6 h3.size (fun g hg => by cases hg; omega))
    simp only [Act.put, List.setIfInBounds_toArray, List.set_cons_succ, List.set_cons_zero]
    have fin : LeavesInM Fence.wide 5 Tryd.prog Tryd.f60 #[tabX f, tabX g, .pointer (some ⟨w.heap.size, 0, none⟩), .pointer (some ⟨w.heap.size + 1, 0, none⟩), .pointer (some ⟨w.heap.size + 1 + 1, 0, none⟩), undef, .func (.func 88) #[.int .i64 9] #[], undef, undef, undef, undef, undef, undef, undef, undef, .agg (tabC g9)]
        (fun e w' => e = Ending.returned (tabX (mixG (thenF f g) g 9)) ∧ Below w.heap.size w w') [] .returning (W6.putObj D (.deferred none)) := by
      exact ⟨_, results_row1 Tryd.results60 _ _ (w.heap.size + 1 + 1) 63 (tabC g9) (by rfl) ((World.putObj_heap_other (by omega)).trans hA6) 9 9 Tryd.underlying63 (by kernel_rfl), by rw [HG9.out]; rfl, bel.trans ⟨rfl, rfl, rfl, by simp [World.putObj], fun k hk => World.putObj_heap_other (by omega)⟩⟩
    exact ⟨by simp, .inl ⟨D, _, rfl, run_takeDeferred d6, fin⟩⟩
  · intro _ _ _ _ _ _ hf
    exact hf.elim
end Go.Proofs.YtcpibkffeenehaaDoor
namespace Go.Proofs.YtcpibkffeenehaaDoor
open Go.RowKit Go.PM Go.Lib
attribute [local go_sem] Oper.semAt_some

set_option maxRecDepth 100000 in
set_option maxHeartbeats 4000000 in
theorem idle_c (f : Nat → ByteArray) (w : World) :
    Calls Tryd.prog 66 #[tabX f] w fun e w' => e = .returned (tabX (mixG (noIdle f) f 9)) ∧ Below w.heap.size w w' := by
  refine (callsIn_wide (n := 5)).1 ?_
  refine callsIn_of_wp_marks Tryd.func66 rfl trivial ?_ rfl
  simp only [Tryd.ntmps66, List.size_toArray, List.length_cons, List.length_nil, Nat.reduceAdd, Nat.reduceSub, Array.replicate_succ, Array.replicate_zero, List.push_toArray, List.append_toArray, List.nil_append, List.cons_append]
  gi_wp2
  refine range_law (F := Fence.wide) (gf := 88) (lf := #[.int .i64 9]) (lb := #[]) rfl (by decide) rfl trivial (fun args w => rfl) (encs := fun p : Nat => #[.int .i64 p]) (xs := List.range 9)
    (below_iter _ _ trivial rfl (by decide)) (fun _ => rfl)
    (fun pre W => At W w.heap.size 63 (tabA (mixG (noIdle f) f pre.length)) ∧ At W (w.heap.size + 1) 63 zA ∧ Below w.heap.size w W)
    (fun _ _ _ => False) ?_ (fun _ => ownFrom_pure _ _) ?_ (fun p => { tmps := #[tabX f, .pointer (some ⟨w.heap.size, 0, none⟩), .pointer (some ⟨w.heap.size + 1, 0, none⟩), .int .i64 p, .func (.func 88) #[.int .i64 9] #[], .int .i64 p, undef, undef, undef, undef, undef, undef, undef, undef, undef], defers := [] }) ?_ ?_ ?_ ?_
  · rintro s A A' row ⟨h1, h2, h3⟩ hg hr
    have hr' : ∀ r, row = some r → w.heap.size + 2 ≤ r := fun r e => by have := (hr r e).1; simp only [World.size_alloc] at this; omega
    refine ⟨(hg.block _ h1.lt (fun e => ?_)).trans h1, (hg.block _ h2.lt (fun e => ?_)).trans h2, h3.trans (below_grown hg h3.size (fun g e => ?_))⟩
    · have := hr' _ e.symm; omega
    · have := hr' _ e.symm; omega
    · have := hr' _ e; omega
  · refine ⟨?_, ?_, ?_⟩
    · rw [List.length_nil, mixG_zero]
      exact (At.new w _ _).alloc _
    · have := At.new (w.alloc (.cells (tabA f) 63)) 63 zA
      rwa [World.size_alloc] at this
    · exact ((Below.refl _ _).alloc (Nat.le_refl _) _).alloc (by simp [World.size_alloc]) _
  · intro l p W Kc hK
    gi_wp2
    exact hK
  · rintro l pre p W ⟨h1, h2, h3⟩ hp hsz
    obtain ⟨hl, hp9⟩ := pre_len pre p hp
    rw [hl] at h1
    have HL : Hid ((pre ++ [p]).length = p + 1) := by show _ = _; simp [hl]
    have HMS := Lib.hid (mixG_set (noIdle f) f p hp9)
    have HSM := Lib.hid (mixG_same (noIdle f) f p)
    have HNI : Hid (noIdle f p = if f p = nm p then emp else f p) := rfl
    clear hl
    have hpc : (tabA (mixG (noIdle f) f p))[p]? = some (.string (f p)) := by rw [← mixG_at (noIdle f) f p]; exact tabC_at _ p hp9
    have hnm := fun W' => name_c p hp9 W'
    generalize hgm : mixG (noIdle f) f p = g' at *
    have i0 : (0 : Int) ≤ (p : Int) := by omega
    have i1 : (p : Int) < 9 := by omega
    have kl := h1.lt
    have kf : W.drew.frozen? ⟨w.heap.size, p, none⟩ = false := h1.frozen p
    have kc : W.drew.cell? ⟨w.heap.size, p, none⟩ = some (.string (f p)) := (h1.cell p).trans hpc
    generalize nm p = q at *
    generalize f p = s at *
    rcases Bool.eq_false_or_eq_true (s.toList == q.toList) with hd | hd
    all_goals
      have hd' := hd
      rw [beq_str] at hd'
      have HD := Lib.hid hd'
      clear hd'
      gi_wp2
      refine region_quiet_inRound (F := Fence.wide) (C := fun w' => w' = W.drew) rfl (by kernel_rfl) (by kernel_rfl) (by kernel_rfl) rfl ?_
      simp only
      gi_big_quiet_step (fail)
      gi_big_quiet_step (fail)
      gi_big_quiet_step (fail)
      gi_big_quiet_step (fail)
      refine BigFrame.wpQuietIn_want (fun _ _ _ _ => trivial) rfl (fun K hK => ?_)
      gi_big_quiet_op
      refine ⟨_, callsIn_wide.2 ((hnm _).mono (fun e w' h => ⟨h.1, h.2.symm⟩)), hK _ ?_⟩
      clear hK K
      gi_big_quiet_step (fail)
      refine wpQuietIn_nil ?_
      intro w' hw'
      subst hw'
      gi_wp2
    · have hs : s = q := by have := HD.out; rwa [decide_eq_true_eq] at this
      refine ⟨(KeepsNew.drew W).from.trans ((KeepsOthers.setCell _ _ _).from _), KeepsIn.zero (by simp [World.size_setCell]), ?_, At.far (w := W.drew) h2 (by simp) _, Below.setCell (w := W.drew) h3.drew (by show w.heap.size ≤ w.heap.size; omega) _⟩
      rw [HL.out, ← HMS.out, HNI.out, if_pos hs]
      exact At.set (w := W.drew) h1 p _
    · have hs : ¬ s = q := by have := HD.out; rwa [decide_eq_false_iff_not] at this
      refine ⟨(KeepsNew.drew W).from, KeepsIn.zero (Nat.le_refl _), ?_, h2, h3.drew⟩
      rw [HL.out, HSM.out (by rw [HNI.out, if_neg hs])]
      exact h1
  · intro D W hD hI hd
    obtain ⟨h1, h2, h3⟩ := hI
    replace h1 : At W (w.heap.size) 63 (tabC (mixG (noIdle f) f 9)) := h1
    have hl1 := h1.lt
    have hl2 := h2.lt
    have hDD : w.heap.size + 2 ≤ D := by first | omega | simpa [World.size_alloc, Nat.add_assoc] using hD
    generalize hg9 : mixG (noIdle f) f 9 = g9 at *
    have HG9 := Lib.hid hg9
    clear hg9
    gi_wp2_with (first | (refine ldIn_row rfl 63 (.tmp 1) rfl (w.heap.size) 63 (tabC g9) h1 (by rfl) 9 9 Tryd.underlying63 (by kernel_rfl) ?_) | (refine stIn_row rfl 63 (.tmp 2) (.tmp 14) rfl rfl (w.heap.size + 1) 63 zA (tabC g9) h2 (by rfl) (by rfl) (by kernel_rfl) rfl (tabC_all _) ?_; intro W6 hA6 hg6))
    have d6 : W6.heap[D]? = some (.deferred (some [])) := (hg6.block D (Array.getElem?_eq_some_iff.1 hd).1 (by simp; omega)).trans hd
    have bel : Below w.heap.size w W6 := h3.trans (below_grown hg6 h3.size (fun g hg => by cases hg; omega))
    simp only [Act.put, List.setIfInBounds_toArray, List.set_cons_succ, List.set_cons_zero]
    have fin : LeavesInM Fence.wide 5 Tryd.prog Tryd.f66 #[tabX f, .pointer (some ⟨w.heap.size, 0, none⟩), .pointer (some ⟨w.heap.size + 1, 0, none⟩), undef, .func (.func 88) #[.int .i64 9] #[], undef, undef, undef, undef, undef, undef, undef, undef, undef, .agg (tabC g9)]
        (fun e w' => e = Ending.returned (tabX (mixG (noIdle f) f 9)) ∧ Below w.heap.size w w') [] .returning (W6.putObj D (.deferred none)) := by
      exact ⟨_, results_row1 Tryd.results66 _ _ (w.heap.size + 1) 63 (tabC g9) (by rfl) ((World.putObj_heap_other (by omega)).trans hA6) 9 9 Tryd.underlying63 (by kernel_rfl), by rw [HG9.out]; rfl, bel.trans ⟨rfl, rfl, rfl, by simp [World.putObj], fun k hk => World.putObj_heap_other (by omega)⟩⟩
    exact ⟨by simp, .inl ⟨D, _, rfl, run_takeDeferred d6, fin⟩⟩
  · intro _ _ _ _ _ _ hf
    exact hf.elim
end Go.Proofs.YtcpibkffeenehaaDoor
namespace Go.PM
open Go.RowKit
theorem SVal_then {f g : Nat → ByteArray} (h1 : SVal (srcT f)) (h2 : SVal (srcT g)) : SVal (srcT (thenF f g)) := by
  intro p hp
  rw [srcT_then]
  exact SVal_cmp h1 h2 p hp
theorem SVal_tab {xs : List Mv} (h : MV xs) : SVal (srcT (tabOf xs)) := by
  intro p hp
  rw [srcT_M h hp]
  exact SVal_M h p hp
theorem SVal_zero : SVal (srcT fun _ => emp) := fun _ h => isS_nm h
/-- what the loop of power holds: what is done, what is left -/
structure PwR (f : Nat → ByteArray) (N : Nat) (d x : Nat → ByteArray) (k : Nat) : Prop where
  inv : PwInv f N d x k
  dv : SVal (srcT d)
  xv : SVal (srcT x)
theorem PwR.start {f : Nat → ByteArray} (h : SVal (srcT f)) (N : Nat) : PwR f N (fun _ => emp) f N := ⟨PwInv_start f N, SVal_zero, h⟩
theorem PwR.odd {f d x : Nat → ByteArray} {N n : Nat} (h : PwR f N d x n) (h1 : n % 2 = 1) : PwR f N (thenF d x) (thenF x x) (n / 2) := ⟨PwInv_odd h.inv h1, SVal_then h.dv h.xv, SVal_then h.xv h.xv⟩
theorem PwR.even {f d x : Nat → ByteArray} {N n : Nat} (h : PwR f N d x n) (h1 : n % 2 = 0) : PwR f N d (thenF x x) (n / 2) := ⟨PwInv_even h.inv h1, h.dv, SVal_then h.xv h.xv⟩
theorem PwR.done {f d x : Nat → ByteArray} {N : Nat} (h : PwR f N d x 0) : ∀ p, p < 9 → srcT d p = pwF (srcT f) N p := fun _ hp => PwInv_end h.inv hp
end Go.PM
namespace Go.Proofs.YtcpibkffeenehaaDoor
open Go.RowKit Go.PM

theorem then_v (f g : Nat → ByteArray) (hg : SVal (srcT g)) (w : World) :
    Calls Tryd.prog 60 #[tabX f, tabX g] w fun e w' => e = .returned (tabX (thenF f g)) ∧ Below w.heap.size w w' := then_c f g hg w
theorem idle_v (f : Nat → ByteArray) (w : World) :
    Calls Tryd.prog 66 #[tabX f] w fun e w' => e = .returned (tabX (noIdle f)) ∧ Below w.heap.size w w' := idle_c f w
end Go.Proofs.YtcpibkffeenehaaDoor
namespace Go.PM
open Go.RowKit
def zS : Nat → UInt8 := fun _ => 0
abbrev zSA : Array Value := #[.int .u8 0, .int .u8 0, .int .u8 0, .int .u8 0, .int .u8 0, .int .u8 0, .int .u8 0, .int .u8 0, .int .u8 0, .int .u8 0, .int .u8 0]
theorem stC_zS : stC zS = zSA := by simp [stC, zS]
def stOf (s : ByteArray) : Nat → UInt8 := if stateV s then ofB s else zS
theorem stOf_yes {s : ByteArray} (h : stateV s = true) : stOf s = ofB s := if_pos h
theorem stOf_no {s : ByteArray} (h : stateV s = false) : stOf s = zS := if_neg (by rw [h]; decide)
def valL (l : List UInt8) (k : Nat) : Bool := (l.take k).all isV
theorem valL_succ (l : List UInt8) (k : Nat) (hk : k < l.length) : valL l (k + 1) = (valL l k && isV l[k]) := by
  unfold valL; rw [take_snoc l k hk, List.all_append]; simp
def mixS (s : ByteArray) (k : Nat) : Nat → UInt8 := fun p => if p < k then ofB s p else 0
theorem mixS_zero (s : ByteArray) : mixS s 0 = zS := by funext p; simp [mixS, zS]
theorem mixS_succ (s : ByteArray) (k : Nat) : updS (mixS s k) k (ofB s k) = mixS s (k + 1) := by
  funext p
  unfold updS mixS
  by_cases h : p = k
  · subst h; simp
  · by_cases h2 : p < k
    · simp [h, h2, Nat.lt_succ_of_lt h2]
    · have : ¬ p < k + 1 := by omega
      simp [h, h2, this]
theorem mixS_full (s : ByteArray) : stC (mixS s 11) = stC (ofB s) := stC_congr fun p hp => by simp [mixS, hp]
end Go.PM
namespace Go.Proofs.YtcpibkffeenehaaDoor
open Go.RowKit Go.PM

set_option maxHeartbeats 800000 in
theorem isValue_c (c : UInt8) (w : World) : Calls Tryd.prog 87 #[.int .u8 c.toNat] w fun e w' => e = .returned (.bool (isV c)) ∧ w = w' := by
  have HV : Hid (isV c = (decide (48 ≤ c.toNat ∧ c.toNat ≤ 57) || (decide (97 ≤ c.toNat ∧ c.toNat ≤ 122) || decide (65 ≤ c.toNat ∧ c.toNat ≤ 90)))) := rfl
  obtain ⟨n, hn⟩ : ∃ n : Nat, c.toNat = n := ⟨_, rfl⟩
  rw [hn] at HV ⊢
  clear hn
  by_cases h1 : (48 : Int) ≤ n <;> by_cases h2 : (n : Int) ≤ 57 <;> by_cases h3 : (97 : Int) ≤ n <;> by_cases h4 : (n : Int) ≤ 122 <;> by_cases h5 : (65 : Int) ≤ n <;> by_cases h6 : (n : Int) ≤ 90 <;> (try omega)
  all_goals
    go_enter Tryd.func87, Tryd.ntmps87
    go_wp2
    go_ret
    refine ⟨?_, rfl⟩
    rw [HV.out]
    simp
    omega
set_option maxRecDepth 100000 in
set_option maxHeartbeats 800000 in
theorem stateOf_c (s : ByteArray) (w : World) (_hs : s.size ≤ 9223372036854775807) :
    Calls Tryd.prog 55 #[.string s] w fun e w' => e = .returned (.tuple #[stV (stOf s), .bool (stateV s)]) ∧ Below w.heap.size w w' := by
  have HR : ∀ (tmps : Array Value) (W : World) (f : Nat → UInt8) (x : Bool), At W w.heap.size 70 (stC f) → tmps.getD 2 undef = .pointer (some ⟨w.heap.size, 0, none⟩) → tmps.getD 3 undef = .bool x →
      (results Tryd.f55 tmps).run Tryd.prog W = .ok (.tuple #[stV f, .bool x]) W := fun tmps W f x hA h2 h3 =>
    results_row2 Tryd.results55 tmps W _ _ _ h2 h3 hA 11 5 Tryd.underlying70 (by kernel_rfl)
  by_cases hl : s.size = 11
  rotate_left
  · have hl1 : ((s.size : Int) != 11) = true := by simp; omega
    have HF : Hid (stateV s = false) := by show _ = _; simp [stateV, hl]
    have HG : Hid (stOf s = zS) := stOf_no HF.out
    clear hl
    go_enter Tryd.func55, Tryd.ntmps55
    go_wp2
    exact bodyPost_ret (v := .tuple #[stV zS, .bool false]) (HR _ _ zS false ((At.new _ _ _).alloc _) rfl rfl) rfl ⟨by rw [HG.out, HF.out], by (repeat' (first | (with_reducible exact Below.refl _ _) | (with_reducible assumption) | (with_reducible refine Below.alloc ?_ ?_ _) | (with_reducible refine Below.drew ?_) | (with_reducible refine Below.setCell ?_ ?_ _) | (with_reducible exact Nat.le_refl _) | omega | ((repeat (first | rewrite [World.size_alloc] | rewrite [World.size_setCell] | rewrite [World.size_drew])); omega) | (simp; omega) | (simp; done)))⟩
  · have hl1 : ((s.size : Int) != 11) = false := by simp; omega
    have HV : Hid (stateV s = valL s.data.toList 11) := by
      show _ = _
      have : s.data.toList.take 11 = s.data.toList := by rw [List.take_of_length_le]; rw [size_data, hl]; omega
      simp [stateV, valL, this, hl]
    have HVS := Lib.hid (fun k hk => valL_succ s.data.toList k hk)
    have hl2 : s.data.toList.length = 11 := by rw [size_data, hl]
    have hl3 := Lib.hid hl
    clear hl
    go_enter Tryd.func55, Tryd.ntmps55
    go_wp2
    have hw0 : ∃ W0 : World, W0 = (w.alloc (Obj.cells zSA 70)).alloc (Obj.cells zSA 70) := ⟨_, rfl⟩
    obtain ⟨W0, hW0⟩ := hw0
    have hB0 : Below w.heap.size w W0 := by rw [hW0]; (repeat' (first | (with_reducible exact Below.refl _ _) | (with_reducible assumption) | (with_reducible refine Below.alloc ?_ ?_ _) | (with_reducible refine Below.drew ?_) | (with_reducible refine Below.setCell ?_ ?_ _) | (with_reducible exact Nat.le_refl _) | omega | ((repeat (first | rewrite [World.size_alloc] | rewrite [World.size_setCell] | rewrite [World.size_drew])); omega) | (simp; omega) | (simp; done)))
    have hA0 : At W0 w.heap.size 70 (stC zS) := by rw [hW0, stC_zS]; exact (At.new _ _ _).alloc _
    have hA1 : At W0 (w.heap.size + 1) 70 (stC zS) := by
      rw [hW0, stC_zS]; have := At.new (w.alloc (Obj.cells zSA 70)) 70 zSA
      rwa [World.size_alloc] at this
    rw [← show W0 = _ from hW0]
    clear hW0
    go_loopw [5, 10] (fun _ i wr => ∃ (k : Nat), k ≤ 11 ∧ i = .int .i64 k ∧ Below w.heap.size w wr ∧ At wr w.heap.size 70 (stC zS) ∧ At wr (w.heap.size + 1) 70 (stC (mixS s k)) ∧ Hid (valL s.data.toList k = true)) (fun _ i _ => 11 - (RowKit.intOf i).toNat)
    case atStart => exact ⟨0, by omega, rfl, hB0, hA0, by rw [mixS_zero]; exact hA1, rfl⟩
    case round =>
      obtain ⟨k, hk, rfl, hb, hA2, hA3, hm⟩ := hrel
      have hbs := hb.size
      have hlt3 := hA3.lt
      by_cases hlt : k < 11
      · have hlk : k < s.data.toList.length := by omega
        have hks : k < s.size := by have := hl3.out; omega
        have hvs := HVS.out k hlk
        have hget : s.data.toList[k] = s[k] := rfl
        have hof : ofB s k = s[k] := by rw [ofB, List.getD_eq_getElem?_getD, List.getElem?_eq_getElem hlk, hget]; rfl
        rw [hget] at hvs
        have hsc := mixS_succ s k
        rw [hof] at hsc
        have hst := stC_set (mixS s k) k hlt s[k]
        rw [hsc] at hst
        have HVS1 := Lib.hid hvs
        have HST := Lib.hid hst
        have hpc := (hA3.cell k).trans (stC_at _ k hlt)
        have hpf := hA3.frozen k
        have i0 : (0 : Int) ≤ (k : Int) := by omega
        have i1 : (k : Int) < 11 := by omega
        clear hvs hget hof hsc hst hlk
        rcases Bool.eq_false_or_eq_true (isV s[k]) with hv | hv
        · have HT : Hid (valL s.data.toList (k + 1) = true) := by show _ = _; rw [HVS1.out, hm.out, hv]; rfl
          go_wp2_with (go_at_call 87; refine (isValue_c _ _).mono ?_; rintro e w' ⟨rfl, rfl⟩)
          go_roundw
          case rel =>
            refine ⟨k + 1, by omega, by go_num, by (repeat' (first | (with_reducible exact Below.refl _ _) | (with_reducible assumption) | (with_reducible refine Below.alloc ?_ ?_ _) | (with_reducible refine Below.drew ?_) | (with_reducible refine Below.setCell ?_ ?_ _) | (with_reducible exact Nat.le_refl _) | omega | ((repeat (first | rewrite [World.size_alloc] | rewrite [World.size_setCell] | rewrite [World.size_drew])); omega) | (simp; omega) | (simp; done))), hA2.far (by simp) _, ?_, HT⟩
            rw [← HST.out]
            exact hA3.set k _
          case measure => simp [RowKit.intOf]; omega
        · have HF : Hid (stateV s = false) := by
            show _ = _
            rw [HV.out]
            have h1 : valL s.data.toList (k + 1) = false := by rw [HVS1.out, hv, Bool.and_false]
            cases h2 : valL s.data.toList 11 with
            | false => rfl
            | true =>
              unfold valL at h1 h2
              rw [List.all_eq_true] at h2
              rw [List.all_eq_false] at h1
              obtain ⟨x, hx, hx2⟩ := h1
              exact absurd (h2 x (List.take_subset_take_left _ (by omega) hx)) hx2
          have HG : Hid (stOf s = zS) := stOf_no HF.out
          go_wp2_with (first | (go_at_call 87; refine (isValue_c _ _).mono ?_; rintro e w' ⟨rfl, rfl⟩) | (refine st_row rfl 70 (.tmp 2) (.tmp 18) rfl rfl w.heap.size 70 (stC zS) (stC zS) hA2 (by rfl) (by rfl) (by kernel_rfl) rfl (stC_one _) ?_; intro W5 hA5 hg5))
          exact bodyPost_ret (v := .tuple #[stV zS, .bool false]) (HR _ _ zS false hA5 rfl rfl) rfl ⟨by rw [HG.out, HF.out], hb.trans (below_grown hg5 hbs (fun g hg => by cases hg; exact Nat.le_refl _))⟩
      · have hk' : k = 11 := by omega
        have HT : Hid (stateV s = true) := by show _ = _; rw [HV.out, ← hk']; exact hm.out
        have HG : Hid (stOf s = ofB s) := stOf_yes HT.out
        have hA4 : At wr (w.heap.size + 1) 70 (stC (ofB s)) := by rw [← mixS_full, ← hk']; exact hA3
        clear hA3 hk'
        go_wp2_with (first | (refine ld_row rfl 70 (.tmp 4) rfl (w.heap.size + 1) 70 (stC (ofB s)) hA4 (by rfl) 11 5 Tryd.underlying70 (by kernel_rfl) ?_) | (refine st_row rfl 70 (.tmp 2) (.tmp 25) rfl rfl w.heap.size 70 (stC zS) (stC (ofB s)) hA2 (by rfl) (by rfl) (by kernel_rfl) rfl (stC_one _) ?_; intro W5 hA5 hg5))
        exact bodyPost_ret (v := .tuple #[stV (ofB s), .bool true]) (HR _ _ (ofB s) true hA5 rfl rfl) rfl ⟨by rw [HG.out, HT.out], hb.trans (below_grown hg5 hbs (fun g hg => by cases hg; exact Nat.le_refl _))⟩
end Go.Proofs.YtcpibkffeenehaaDoor
namespace Go.Proofs.YtcpibkffeenehaaDoor
open Go.RowKit Go.PM

theorem read_c (f : Nat → UInt8) (a : ByteArray) (h : okC a = true) (w : World) :
    Calls Tryd.prog 89 #[stV f, .string a] w fun e w' => e = .returned (.int .u8 (rdS f a).toNat) ∧ Below w.heap.size w w' := by
  rcases Bool.eq_false_or_eq_true (isC a) with hc | hc
  · have hlt := cidx_lt hc
    have hr := rdS_cell (f := f) hc
    have hci := fun W => cellOf_yes a hc W
    have hA := At.new w 70 (stC f)
    have hpc := (hA.cell _).trans (stC_at f _ hlt)
    have HR := Lib.hid hr
    have i0 : (0 : Int) ≤ (cidx a : Int) := by omega
    have i1 : (cidx a : Int) < 11 := by omega
    clear h hc hr
    generalize cidx a = k at *
    go_enter Tryd.func89, Tryd.ntmps89
    go_wp2_with (go_at_call 107; refine (hci _).mono ?_; rintro e w' ⟨rfl, rfl⟩)
    go_ret
    exact ⟨by rw [HR.out]; rfl, by (repeat' (first | (with_reducible exact Below.refl _ _) | (with_reducible assumption) | (with_reducible refine Below.alloc ?_ ?_ _) | (with_reducible refine Below.drew ?_) | (with_reducible refine Below.setCell ?_ ?_ _) | (with_reducible exact Nat.le_refl _) | omega | ((repeat (first | rewrite [World.size_alloc] | rewrite [World.size_setCell] | rewrite [World.size_drew])); omega) | (simp; omega) | (simp; done)))⟩
  · have hd : isD a = true := by unfold okC at h; rw [hc, Bool.false_or] at h; exact h
    have hr := rdS_digit (f := f) hc
    have hsz := isD_size hd
    have hci := fun W => cellOf_no a hc W
    obtain ⟨c, rfl⟩ := one_of_size hsz
    have HR : Hid (rdS f ⟨#[c]⟩ = c) := hr
    clear h hc hr hd hsz
    go_enter Tryd.func89, Tryd.ntmps89
    go_wp2_with (go_at_call 107; refine (hci _).mono ?_; rintro e w' ⟨rfl, rfl⟩)
    go_ret
    exact ⟨by rw [HR.out]; rfl, by (repeat' (first | (with_reducible exact Below.refl _ _) | (with_reducible assumption) | (with_reducible refine Below.alloc ?_ ?_ _) | (with_reducible refine Below.drew ?_) | (with_reducible refine Below.setCell ?_ ?_ _) | (with_reducible exact Nat.le_refl _) | omega | ((repeat (first | rewrite [World.size_alloc] | rewrite [World.size_setCell] | rewrite [World.size_drew])); omega) | (simp; omega) | (simp; done)))⟩
theorem text_c (f : Nat → UInt8) (w : World) :
    Calls Tryd.prog 57 #[stV f] w fun e w' => e = .returned (.string (stB f)) ∧ Below w.heap.size w w' := by
  have hA := At.new w 70 (stC f)
  have hcv : ∀ W, At W w.heap.size 70 (stC f) → (convert 22 9 (.slice (some ⟨w.heap.size, 0, none⟩) 11 11)).run Tryd.prog W = .ok (.string (stB f)) W := fun W hW => by
    rw [run_convert_bytes_string _ _ _ _ _ _ _ Tryd.underlying22 Tryd.underlying5 Tryd.underlying9]
    have hl : (loadCells ⟨w.heap.size, 0, none⟩ 11).run Tryd.prog W = .ok ([((f 0).toNat : Int), (f 1).toNat, (f 2).toNat, (f 3).toNat, (f 4).toNat, (f 5).toNat, (f 6).toNat, (f 7).toNat, (f 8).toNat, (f 9).toNat, (f 10).toNat].map (Value.int .u8)).toArray W :=
      run_loadCells_list (P := Tryd.prog) W ⟨w.heap.size, 0, none⟩ (stC f).toList (fun j v hj => by
        have hadd : (⟨w.heap.size, 0, none⟩ : Addr).add j = ⟨w.heap.size, j, none⟩ := by unfold Addr.add; split <;> simp_all
        rw [hadd, hW.cell]
        simpa using hj)
    rw [run_bytesToString (ns := [((f 0).toNat : Int), (f 1).toNat, (f 2).toNat, (f 3).toNat, (f 4).toNat, (f 5).toNat, (f 6).toNat, (f 7).toNat, (f 8).toNat, (f 9).toNat, (f 10).toNat]) _ _ _ _ hl]
    simp [stB]
    rfl
  have hcv1 := hcv _ hA
  clear hcv
  generalize stB f = t at *
  go_enter Tryd.func57, Tryd.ntmps57
  go_wp2
  go_ret
  exact ⟨rfl, by (repeat' (first | (with_reducible exact Below.refl _ _) | (with_reducible assumption) | (with_reducible refine Below.alloc ?_ ?_ _) | (with_reducible refine Below.drew ?_) | (with_reducible refine Below.setCell ?_ ?_ _) | (with_reducible exact Nat.le_refl _) | omega | ((repeat (first | rewrite [World.size_alloc] | rewrite [World.size_setCell] | rewrite [World.size_drew])); omega) | (simp; omega) | (simp; done)))⟩
/-- a whole array is read in a quiet region: the step -/
theorem row_step {P : Program} {ops : Array Oper} {C : World → Prop} {Q : Act → Prop} {a : Act} {o : Oper} {rest : List Oper} (hw : Region.wanted o (yielded ops a.tmps) = true) (ty : TypeId) (x : Operand) (ho : o.op = .load ty x) (b : Nat) (t : TypeId) (cs : Array Value)
    (hx : a.eval x = .pointer (some ⟨b, 0, none⟩)) (hC : ∀ W, C W → At W b t cs) (k : Nat) (e : TypeId) (hu : P.underlying ty = some (.array k e)) (hi : (P.info? ty).map (·.size) = some cs.size) (h : wpQuiet P ops C Q rest (a.put o.dst (.agg cs))) : wpQuiet P ops C Q (o :: rest) a :=
  BigFrame.wpQuiet_want hw fun _ hK => quiet_row ty x ho b t cs hx hC k e hu hi (hK _ h)

end Go.Proofs.YtcpibkffeenehaaDoor
namespace Go.PM
open Go.RowKit
def sinkB1 (md : Region.Mode) (ops : Array Oper) (n : Nat) : Bool :=
  (List.range n).all fun i => decide (i = 0) || (List.range (n + 1)).any fun j => decide (i < j) && Region.waitsFor md ops j i
section
variable {P : Program} {ops : Array Oper} {md : Region.Mode}
theorem tail_waits1 {n : Nat} {listed : Array Bool} (hs : sinkB1 md ops n = true) (hc : Region.chainB md ops n = true) (hn : n < ops.size) (inv : HeadInv md ops n listed) :
    ∀ (d i : Nat), n - i = d → 0 < i → i < n → listed.getD i true = false → ∀ t, n ≤ t → t ∉ Region.ready md ops listed := by
  intro d
  induction d using Nat.strongRecOn with
  | _ d ih =>
    intro i hd hi0 hi hun t ht hr
    obtain ⟨_, ot, hot, hall⟩ := mem_ready.1 hr
    have htlt : t < ops.size := (Array.getElem?_eq_some_iff.1 hot).1
    by_cases htn : t = n
    · subst htn
      have h1 := List.all_eq_true.1 hs i (List.mem_range.2 hi)
      rw [Bool.or_eq_true, decide_eq_true_eq] at h1
      have h1 := h1.resolve_left (by omega)
      obtain ⟨j, hj, hj2⟩ := List.any_eq_true.1 h1
      simp only [Bool.and_eq_true, decide_eq_true_eq] at hj2
      obtain ⟨oj, hoj, e, he, hb, hon⟩ := Region.waitsFor_spec hj2.2
      have hjle : j ≤ t := by have := List.mem_range.1 hj; omega
      by_cases hjt : j = t
      · subst hjt
        have : oj = ot := Option.some.inj (hoj.symm.trans hot)
        subst this
        have h2 := hall e he hb
        rw [hon, getD_both hun] at h2
        cases h2
      · cases hl : listed.getD j false with
        | true =>
          have h2 := inv.closed j oj hoj hl e he hb
          rw [hon, getD_both hun] at h2
          cases h2
        | false =>
          have hjs : j < listed.size := by rw [inv.size]; omega
          exact ih (t - j) (by omega) j rfl (by omega) (by omega) (getD_in hjs hl) t (Nat.le_refl _) hr
    · have h1 := List.all_eq_true.1 hc t (List.mem_range.2 htlt)
      simp only [Bool.or_eq_true, decide_eq_true_eq] at h1
      rcases h1 with h1 | h1
      · omega
      · obtain ⟨o', ho', e, he, hb, hon⟩ := Region.waitsFor_spec h1
        have : o' = ot := Option.some.inj (ho'.symm.trans hot)
        subst this
        have h2 := hall e he hb
        rw [hon, getD_both (inv.tail (t - 1) (by omega) (by omega))] at h2
        cases h2
end
section
variable {F : Fence} {m : Nat} {P : Program} {ops : Array Oper} {md : Region.Mode} {C D : World → Prop} {Q : Exit → Act → World → Prop}
theorem wpAnyLQ1_first {n i : Nat} {oi : Oper} {v : Value} {L : Array Bool → Act → Prop} (hi : ops[i]? = some oi) (hsel : ∀ (j : Nat) (o : Oper) cs b, ops[j]? = some o → o.op ≠ .select cs b)
    (hi0 : 0 < i) (hs : sinkB1 md ops n = true) (hc : Region.chainB md ops n = true) (hn : n < ops.size) (hin : i < n)
    (hdone : ∀ listed a, L listed a → ∀ j ∈ Region.ready md ops listed, n ≤ j) :
    ∀ (f : Nat) (listed : Array Bool) (a : Act), HeadInv md ops n listed →
      (∀ j oj, ops[j]? = some oj → j ≠ i → listed.getD j true = false → (∀ e ∈ oj.after, Region.binds md e = true → e.on ≠ i) → oi.apart ops oj = true) →
      i ∈ Region.ready md ops listed → YieldsQuiet F m P ops C oi v a →
      wpAnyLQIn F m P md ops C n L f (listed.setIfInBounds i true) (a.put oi.dst v) → wpAnyLQIn F m P md ops C n L (f + 1) listed a := by
  intro f
  induction f with
  | zero =>
    intro listed a inv _ hr hy H
    have hun := (mem_ready.1 hr).1
    refine ⟨fun h => (by rw [h] at hr; cases hr), fun j hj => ?_⟩
    have hjn : j < n := by
      rcases Nat.lt_or_ge j n with h | h
      · exact h
      · exact absurd hj (tail_waits1 hs hc hn inv _ i rfl hi0 hin hun j h)
    refine ⟨hjn, ?_⟩
    by_cases hji : j = i
    · subst hji; exact hy.qOpIn hi H
    · have := hdone _ _ H j (ready_mono hj hji)
      omega
  | succ f ih =>
    intro listed a inv hfree hr hy H
    have hun := (mem_ready.1 hr).1
    refine ⟨fun h => (by rw [h] at hr; cases hr), fun j hj => ?_⟩
    have hjn : j < n := by
      rcases Nat.lt_or_ge j n with h | h
      · exact h
      · exact absurd hj (tail_waits1 hs hc hn inv _ i rfl hi0 hin hun j h)
    refine ⟨hjn, ?_⟩
    by_cases hji : j = i
    · subst hji; exact hy.qOpIn hi H
    · have h1 := (H.2 j (ready_mono hj hji)).2
      obtain ⟨hjun, oj, hoj, hall⟩ := mem_ready.1 hj
      have hnot : ∀ e ∈ oj.after, Region.binds md e = true → e.on ≠ i := fun e he hb heq => by
        have h1 := hall e he hb
        rw [heq, getD_both hun] at h1
        cases h1
      have h2 := qOpIn_put hoj (hfree j oj hoj hji hjun hnot) (fun cs b => hsel i oi cs b hi) (fun cs b => hsel j oj cs b hoj) hy h1
      have hfree' : ∀ k ok, ops[k]? = some ok → k ≠ i → (listed.setIfInBounds j true).getD k true = false →
          (∀ e ∈ ok.after, Region.binds md e = true → e.on ≠ i) → oi.apart ops ok = true := fun k ok hk hki hun hno => by
        refine hfree k ok hk hki ?_ hno
        by_cases hjk : j = k
        · subst hjk; exact hjun
        · rw [getD_set_ne true hjk] at hun; exact hun
      refine qOpIn_mono (fun a' h3 => ih (listed.setIfInBounds j true) a' (inv.set hj hjn) hfree' (ready_mono hr (Ne.symm hji)) h3.1 ?_) h2
      rw [Array.setIfInBounds_comm _ _ hji]
      exact h3.2

theorem wpAnyLQ1_lex {n g : Nat} {Lq : Act → Prop} (hsel : Region.noSelect ops = true) (hs : sinkB1 md ops n = true) (hc : Region.chainB md ops n = true) (hn : n < ops.size) :
    ∀ (l : List Oper) (k : Nat) (listed : Array Bool) (a : Act), 0 < k → (∀ j, j < l.length → l[j]? = ops[k + j]?) → k + l.length = n → HeadInv md ops n listed →
    Region.lexHead md ops g l.length k listed = true → wpQuietIn F m P ops C Lq l a →
    wpAnyLQIn F m P md ops C n (fun listed' a' => Region.seqB md ops g n listed' = true ∧ Lq a') l.length listed a
  | [], k, listed, a, _, _, hk, _, hB, h => by
    have : k = n := by simpa using hk
    subst this
    exact ⟨by simpa [Region.lexHead] using hB, h⟩
  | o :: l, k, listed, a, hk0, hl, hk, inv, hB, h => by
    have h0 : ops[k]? = some o := by simpa using (hl 0 (by simp)).symm
    simp only [List.length_cons, Region.lexHead, Bool.and_eq_true] at hB
    obtain ⟨⟨hr, hf⟩, hB'⟩ := hB
    have hkn : k < n := by simp only [List.length_cons] at hk; omega
    have hr' : k ∈ Region.ready md ops listed := by simpa using hr
    have hst : qOpIn F m P ops C k (wpQuietIn F m P ops C Lq l) a := by unfold qOpIn; simp only [h0]; exact h
    obtain ⟨v, hy, hK⟩ := yieldsQuiet_of_qOpIn h0 hst
    exact wpAnyLQ1_first h0 (Region.noSelect_spec hsel) hk0 hs hc hn hkn (fun listed' a' hL => seqB_ready hL.1) l.length listed a inv (Region.free_spec h0 hf) hr' hy
      (wpAnyLQ1_lex hsel hs hc hn l (k + 1) _ _ (by omega) (fun j hj => by have := hl (j + 1) (by simp; omega); simpa [Nat.add_assoc, Nat.add_comm 1 j] using this) (by simp only [List.length_cons] at hk; omega) (inv.set hr' hkn) hB' hK)


/-- the same walk, a fact kept till an operation comes that waits for number 0 -/
def wpAnyT (F : Fence) (m : Nat) (P : Program) (md : Region.Mode) (ops : Array Oper) (D : World → Prop) (Q : Exit → Act → World → Prop) : Nat → Array Bool → Act → World → Prop
  | 0, listed, a, w => D w ∧ Region.ready md ops listed = [] ∧ Q .normal a w
  | f + 1, listed, a, w => D w ∧ (Region.ready md ops listed = [] → Q .normal a w) ∧ ∀ j ∈ Region.ready md ops listed,
      wpOpIn F m P ops Q j (fun a' w' => if Region.waitsFor md ops j 0 then wpAnyIn F m P md ops Q f (listed.setIfInBounds j true) a' w' else wpAnyT F m P md ops D Q f (listed.setIfInBounds j true) a' w') a w
theorem wpAnyT_any : ∀ (f : Nat) (listed : Array Bool) (a : Act) (w : World), wpAnyT F m P md ops D Q f listed a w → wpAnyIn F m P md ops Q f listed a w
  | 0, _, _, _, h => h.2
  | f + 1, listed, a, w, h => ⟨h.2.1, fun j hj => wpOpIn_mono (fun a' w' h' => by
      split at h'
      · exact h'
      · exact wpAnyT_any f _ a' w' h') (h.2.2 j hj)⟩
theorem wpAnyT_world {f : Nat} {listed : Array Bool} {a : Act} {w : World} (h : wpAnyT F m P md ops D Q f listed a w) : D w := by
  cases f <;> exact h.1
def YieldsD (P : Program) (ops : Array Oper) (D : World → Prop) (o : Oper) (v : Value) (a : Act) : Prop :=
  Region.wanted o (yielded ops a.tmps) = true ∧ (∀ w, D w → (execOp a.eval o).run P w = .ok (.value v) w) ∧ ∀ w, o.about P w a.eval = none
theorem YieldsD.of_same {o : Oper} {v : Value} {a a' : Act} (hy : YieldsD P ops D o v a) (he : execOp a'.eval o = execOp a.eval o) (hw : Region.wanted o (yielded ops a'.tmps) = Region.wanted o (yielded ops a.tmps)) (hb : ∀ w, o.about P w a'.eval = o.about P w a.eval) : YieldsD P ops D o v a' := by
  unfold YieldsD at *
  rw [he, hw]
  exact ⟨hy.1, hy.2.1, fun w => by rw [hb w]; exact hy.2.2 w⟩
theorem YieldsD.op {i : Nat} {o : Oper} {v : Value} {a : Act} (hro : F.round = none) (hi : ops[i]? = some o) (hy : YieldsD P ops D o v a) {K : Act → World → Prop} {w : World} (hw : D w) (h : K (a.put o.dst v) w) : wpOpIn F m P ops Q i K a w := by
  unfold wpOpIn
  simp only [hi, hy.1, if_true]
  unfold Oper.wpIn
  rw [hro, Oper.semAt_none, hy.2.1 w hw]
  exact ⟨(fun f hf => by rw [hy.2.2 w] at hf; cases hf), h⟩
theorem opD_put {j : Nat} {oi oj : Oper} {v : Value} (hro : F.round = none) (hj : ops[j]? = some oj) (hap : oi.apart ops oj = true)
    (hsi : ∀ cs b, oi.op ≠ .select cs b) (hsj : ∀ cs b, oj.op ≠ .select cs b)
    (hQ : ∀ c a w, Q (.panic c) (a.put oi.dst v) w → Q (.panic c) a w) {K : Act → World → Prop} {a : Act} {w : World}
    (hy : YieldsD P ops D oi v a) (h : wpOpIn F m P ops Q j K (a.put oi.dst v) w) :
    wpOpIn F m P ops Q j (fun a' w' => YieldsD P ops D oi v a' ∧ K (a'.put oi.dst v) w') a w := by
  obtain ⟨h1, h2, h3⟩ := Oper.apart_spec hap
  have keep : ∀ (a : Act), YieldsD P ops D oi v a → ∀ u, YieldsD P ops D oi v (a.put oj.dst u) := fun a hy u =>
    hy.of_same (execOp_put oi hsi a oj.dst u h3) (wanted_put oi a oj.dst u h3) (fun w => about_put oi w a oj.dst u h3)
  have keepD : ∀ d, YieldsD P ops D oi v { a with defers := d :: a.defers } := fun d => hy.of_same rfl rfl (fun _ => rfl)
  unfold wpOpIn at *
  simp only [hj] at *
  rw [wanted_put oj a oi.dst v h1, about_put oj w a oi.dst v h1] at h
  split
  · rename_i hw
    simp only [hw, if_true] at h
    unfold Oper.wpIn at *
    rw [about_put oj w a oi.dst v h1] at h
    refine ⟨h.1, ?_⟩
    have h := h.2
    rw [hro, Oper.semAt_none, execOp_put oj hsj a oi.dst v h1] at h
    rw [hro, Oper.semAt_none]
    generalize (execOp a.eval oj).run P w = r at *
    cases r with
    | ok x w' =>
      cases x <;> simp only [Oper.uponIn] at h ⊢
      case value u => exact ⟨keep a hy u, by rw [← Act.put_comm a v u h2]; exact h⟩
      case skip => exact ⟨keep a hy _, by rw [← Act.put_comm a v undef h2]; exact h⟩
      case defer d =>
        refine ⟨keep _ (keepD d) _, ?_⟩
        rw [← Act.put_comm _ v undef h2, ← Act.put_defers]
        exact h
      case enter f args =>
        refine ⟨h.1, CallsIn.mono h.2 fun e w'' he => ?_⟩
        cases e with
        | returned u => exact ⟨keep a hy u, by rw [← Act.put_comm a v u h2]; exact he⟩
        | panicked c => exact hQ _ _ _ he
        | outgrown => exact he
      case row row args => exact ⟨h.1, RowsIn.mono h.2 fun u w'' he => ⟨keep a hy u, by rw [← Act.put_comm a v u h2]; exact he⟩⟩
      case round l f tmps assign body =>
        refine ⟨h.1, RoundIn.mono h.2 fun e w'' he => ?_⟩
        cases e with
        | returned u => exact ⟨keep a hy u, by rw [← Act.put_comm a v u h2]; exact he⟩
        | panicked c => exact hQ _ _ _ he
        | outgrown => exact he
    | halt x w' =>
      cases x <;> simp only [Oper.uponIn] at h ⊢
      case panic u => exact hQ _ _ _ h
  · rename_i hw
    simp only [hw] at h
    exact ⟨h.1, keep a hy _, by rw [← Act.put_comm a v undef h2]; exact h.2⟩
theorem late_first {oi : Oper} {v : Value} (hro : F.round = none) (hi : ops[0]? = some oi) (hsel : ∀ (j : Nat) (o : Oper) cs b, ops[j]? = some o → o.op ≠ .select cs b)
    (hQ : ∀ c a w, Q (.panic c) (a.put oi.dst v) w → Q (.panic c) a w) :
    ∀ (fuel : Nat) (listed : Array Bool) (a : Act) (w : World),
      (∀ j oj, ops[j]? = some oj → j ≠ 0 → listed.getD j true = false → (∀ e ∈ oj.after, Region.binds md e = true → e.on ≠ 0) → oi.apart ops oj = true) →
      0 ∈ Region.ready md ops listed → YieldsD P ops D oi v a →
      wpAnyT F m P md ops D Q fuel (listed.setIfInBounds 0 true) (a.put oi.dst v) w → wpAnyIn F m P md ops Q (fuel + 1) listed a w := by
  intro fuel
  induction fuel with
  | zero =>
    intro listed a w _ hr hy H
    refine ⟨fun h => (by rw [h] at hr; cases hr), fun j hj => ?_⟩
    by_cases hji : j = 0
    · subst hji; exact hy.op hro hi H.1 H.2
    · have := ready_mono hj hji
      rw [H.2.1] at this
      cases this
  | succ fuel ih =>
    intro listed a w hfree hr hy H
    refine ⟨fun h => (by rw [h] at hr; cases hr), fun j hj => ?_⟩
    by_cases hji : j = 0
    · subst hji; exact hy.op hro hi H.1 (wpAnyT_any _ _ _ _ H)
    · have h1 := H.2.2 j (ready_mono hj hji)
      obtain ⟨hjun, oj, hoj, hall⟩ := mem_ready.1 hj
      have hun0 := (mem_ready.1 hr).1
      have hnot : ∀ e ∈ oj.after, Region.binds md e = true → e.on ≠ 0 := fun e he hb heq => by
        have h1 := hall e he hb
        rw [heq, getD_both hun0] at h1
        cases h1
      have hnw : Region.waitsFor md ops j 0 = false := by
        cases hwf : Region.waitsFor md ops j 0 with
        | false => rfl
        | true =>
          obtain ⟨o', ho', e, he, hb, hon⟩ := Region.waitsFor_spec hwf
          have : o' = oj := Option.some.inj (ho'.symm.trans hoj)
          subst this
          exact absurd hon (hnot e he hb)
      have h2 := opD_put hro hoj (hfree j oj hoj hji hjun hnot) (fun cs b => hsel 0 oi cs b hi) (fun cs b => hsel j oj cs b hoj) hQ hy h1
      have hfree' : ∀ k ok, ops[k]? = some ok → k ≠ 0 → (listed.setIfInBounds j true).getD k true = false →
          (∀ e ∈ ok.after, Region.binds md e = true → e.on ≠ 0) → oi.apart ops ok = true := fun k ok hk hki hun hno => by
        refine hfree k ok hk hki ?_ hno
        by_cases hjk : j = k
        · subst hjk; exact hjun
        · rw [getD_set_ne true hjk] at hun; exact hun
      refine wpOpIn_mono (fun a' w' h3 => ih (listed.setIfInBounds j true) a' w' hfree' (ready_mono hr (Ne.symm hji)) h3.1 ?_) h2
      have h4 := h3.2
      rw [hnw, if_neg (by decide)] at h4
      rw [Array.setIfInBounds_comm _ _ hji]
      exact h4
theorem wpAnyT_of_headQ {n g : Nat} {L : Array Bool → Act → Prop} (hro : F.round = none) (hCD : ∀ w, C w → D w) (hL : ∀ listed a w, C w → L listed a → wpAnyT F m P md ops D Q g listed a w) :
    ∀ (f : Nat) (listed : Array Bool) (a : Act) (w : World), C w → wpAnyLQIn F m P md ops C n L f listed a → wpAnyT F m P md ops D Q (f + g) listed a w
  | 0, listed, a, w, hw, h => by rw [Nat.zero_add]; exact hL _ _ _ hw h
  | f + 1, listed, a, w, hw, h => by
    rw [show f + 1 + g = (f + g) + 1 by omega]
    refine ⟨hCD w hw, fun h0 => absurd h0 h.1, fun i hi => wpOpIn_of_qOpIn hro hw (fun a' w' hw' h' => ?_) (h.2 i hi).2⟩
    have := wpAnyT_of_headQ hro hCD hL f _ a' w' hw' h'
    split
    · exact wpAnyT_any _ _ _ _ this
    · exact this
/-- what is asked of the region's form -/
def lateB (ops : Array Oper) (n : Nat) : Bool :=
  Region.noSelect ops && decide (0 < n) && decide (n + 1 < ops.size) && sinkB1 .any ops n && Region.chainB .any ops n && Region.lexHead .any ops (ops.size - n) (n - 1) 1 ((Array.replicate ops.size false).setIfInBounds 0 true) &&
    Region.waitsFor .any ops (n + 1) 0 && Region.free .any ops (Array.replicate ops.size false) 0 && (Region.ready .any ops (Array.replicate ops.size false)).contains 0
/-- A region that draws its order, whose first operation reads what only the last ones turn: it first, n - 1 quiet ones, one that may make memory, the others one behind the other. -/
theorem any_late {a : Act} {w : World} {l : List Oper} (n : Nat) (hro : F.round = none) (hB : lateB l.toArray n = true) (o0 on : Oper) (h0 : l[0]? = some o0) (hon : l[n]? = some on) (hgn : on.guard = none) (v0 : Value)
    (hQ : ∀ c a w, Q (.panic c) (a.put o0.dst v0) w → Q (.panic c) a w) (hy : YieldsD P l.toArray D o0 v0 a) (hCD : ∀ w, C w → D w) (hC : C w)
    (h : wpQuietIn F m P l.toArray C (fun a' => ∀ w', C w' → ∀ K : Act → World → Prop, (∀ a'' w'', D w'' → wpListIn F m P l.toArray Q (l.drop (n + 1)) a'' w'' → K a'' w'') → Oper.wpIn F m P on a' w' K Q) ((l.drop 1).take (n - 1)) (a.put o0.dst v0)) :
    wpAnyIn F m P .any l.toArray Q l.toArray.size (Array.replicate l.toArray.size false) a w := by
  simp only [lateB, Bool.and_eq_true, decide_eq_true_eq] at hB
  obtain ⟨⟨⟨⟨⟨⟨⟨⟨hsel, hn0⟩, hn⟩, hs⟩, hc⟩, hlex⟩, hw0⟩, hf0⟩, hr0⟩ := hB
  have hn' : n + 1 < l.length := by simpa using hn
  have hr0' : 0 ∈ Region.ready .any l.toArray (Array.replicate l.toArray.size false) := by simpa using hr0
  have h0a : l.toArray[0]? = some o0 := by simpa using h0
  have inv0 : HeadInv .any l.toArray n (Array.replicate l.toArray.size false) :=
    ⟨by simp, fun j oj _ hl => (by rw [getD_replicate_false] at hl; cases hl), fun t _ ht => getD_in (by simpa using ht) (getD_replicate_false _ _)⟩
  have inv1 := inv0.set hr0' hn0
  have htl : ((l.drop 1).take (n - 1)).length = n - 1 := by simp; omega
  have H := wpAnyLQ1_lex (md := .any) (g := l.toArray.size - n) hsel hs hc (by omega) ((l.drop 1).take (n - 1)) 1 _ (a.put o0.dst v0) (by decide) (fun j hj => by
    have hj' : j < n - 1 := by rw [htl] at hj; exact hj
    simp [hj', Nat.add_comm]) (by rw [htl]; omega) inv1 (by rw [htl]; exact hlex) h
  have T := wpAnyT_of_headQ (D := D) (Q := Q) (g := l.toArray.size - n) hro hCD (fun listed a' w' hw' hL => by
    obtain ⟨hseq, hLq⟩ := hL
    obtain ⟨g, hg⟩ : ∃ g, l.toArray.size - n = g + 1 + 1 := ⟨l.toArray.size - n - 2, by simp; omega⟩
    rw [hg] at hseq ⊢
    simp only [Region.seqB, Bool.and_eq_true, decide_eq_true_eq] at hseq
    refine ⟨hCD w' hw', fun h1 => (by rw [hseq.1] at h1; cases h1), fun i hi => ?_⟩
    rw [hseq.1] at hi
    have hin : i = n := by simpa using hi
    subst hin
    have hona : l.toArray[i]? = some on := by simpa using hon
    unfold wpOpIn
    simp only [hona]
    have hwn : Region.wanted on (yielded l.toArray a'.tmps) = true := by simp [Region.wanted, hgn]
    rw [if_pos hwn]
    refine hLq w' hw' _ (fun a'' w'' hD hlist => ?_)
    have hdl : (l.drop (i + 1)).length = g + 1 := by simp at hg ⊢; omega
    have hany := wpAnyIn_of_seq' (md := .any) (Q' := Q) (l.drop (i + 1)) (i + 1) (listed.setIfInBounds i true) a'' w'' (fun j => by simp [List.getElem?_drop]) (by rw [hdl]; simp only [Region.seqB, Bool.and_eq_true, decide_eq_true_eq]; exact hseq.2) hlist
    rw [hdl] at hany
    split
    · exact hany
    · refine ⟨hD, hany.1, fun j hj => ?_⟩
      rw [hseq.2.1] at hj
      have hjn : j = i + 1 := by simpa using hj
      subst hjn
      simp only [hw0, if_true]
      exact hany.2 _ (by rw [hseq.2.1]; simp)) _ _ _ _ hC H
  rw [htl, show n - 1 + (l.toArray.size - n) = l.toArray.size - 1 by omega] at T
  have := late_first (md := .any) hro h0a (Region.noSelect_spec hsel) hQ (l.toArray.size - 1) _ a w (Region.free_spec h0a hf0) hr0' hy T
  rw [show l.toArray.size - 1 + 1 = l.toArray.size by omega] at this
  exact this
theorem region_late_inRound {id r : Nat} {a : Act} {w : World} {l : List Oper} (n : Nat) (hro : F.round = none) (hd : noDefer l.toArray = true) (hm : P.follows .mixedOrders = true) (hB : lateB l.toArray n = true) (o0 on : Oper) (h0 : l[0]? = some o0) (hon : l[n]? = some on) (hgn : on.guard = none) (v0 : Value)
    (hQ : ∀ c a w, Q (.panic c) (a.put o0.dst v0) w → Q (.panic c) a w) (hy : YieldsD P l.toArray D o0 v0 a) (hCD : ∀ w, C w → D w) (hC : C w.drew)
    (h : wpQuietIn F m P l.toArray C (fun a' => ∀ w', C w' → ∀ K : Act → World → Prop, (∀ a'' w'', D w'' → wpListIn F m P l.toArray Q (l.drop (n + 1)) a'' w'' → K a'' w'') → Oper.wpIn F m P on a' w' K Q) ((l.drop 1).take (n - 1)) (a.put o0.dst v0)) :
    (Code.region id l.toArray true).wpIn (F.inRound r) m P Q a w :=
  region_inRound hro hd hm (any_late n hro hB o0 on h0 hon hgn v0 hQ hy hCD hC h)
end
end Go.PM
namespace Go.PM
open Go.RowKit
theorem box_apart {w : World} {base : Nat} {e t : TypeId} {size n b : Nat} {v : Value} {cs : List Value} {c : Array Value} (h : w.ownsRow base e size v n cs) (hA : At w b t c) (hne : e ≠ t) : some b ≠ v.ownBlock := by
  rcases h.2 with ⟨rfl, _⟩ | ⟨g, cap, cur, rfl, _, hg, _⟩
  · simp [Value.ownBlock]
  · intro e'
    simp only [Value.ownBlock, Option.some.injEq] at e'
    subst e'
    unfold At at hA
    rw [hA] at hg
    cases hg
    exact hne rfl
/-- a row of one's own outlasts the turn of a block that is no cells -/
theorem row_turn {w w' : World} {base : Nat} {e : TypeId} {size n : Nat} {v : Value} {cs : List Value} {row : Option Nat} (h : w.ownsRow base e size v n cs) (hg : w.grownBy w' row) (hr : ∀ r, row = some r → ∃ o : Obj, w.heap[r]? = some o ∧ o.isCells = false) : w'.ownsRow base e size v n cs := by
  refine h.kept hg ?_
  rcases h.2 with ⟨rfl, _⟩ | ⟨g, cap, cur, rfl, _, hh, _⟩
  · exact .inl rfl
  · refine .inr fun e' => ?_
    obtain ⟨o, ho, hc⟩ := hr g e'.symm
    rw [hh] at ho
    cases ho
    cases hc
theorem at_turn {w w' : World} {b : Nat} {t : TypeId} {c : Array Value} {row : Option Nat} (h : At w b t c) (hg : w.grownBy w' row) (hr : ∀ r, row = some r → ∃ o : Obj, w.heap[r]? = some o ∧ o.isCells = false) : At w' b t c := by
  refine h.grown hg fun e' => ?_
  obtain ⟨o, ho, hc⟩ := hr b e'.symm
  unfold At at h
  rw [h] at ho
  cases ho
  cases hc
theorem yieldsD_move {P : Program} {ops : Array Oper} {D : World → Prop} {o : Oper} {a : Act} (hgd : o.guard = none) (x : Operand) (ho : o.op = .move x) (v : Value) (hx : a.eval x = v) : YieldsD P ops D o v a := by
  subst hx
  refine ⟨by simp [Region.wanted, hgd], fun w _ => ?_, fun w => by simp [Oper.about, ho]⟩
  simp [execOp, ho]
theorem region_late_wide {P : Program} {m : Nat} {C D : World → Prop} {Q : Exit → Act → World → Prop} {id : Nat} {a : Act} {w : World} {l : List Oper} (n : Nat) (hm : P.follows .mixedOrders = true) (hB : lateB l.toArray n = true) (o0 on : Oper) (h0 : l[0]? = some o0) (hon : l[n]? = some on) (hgn : on.guard = none) (v0 : Value)
    (hQ : ∀ c a w, Q (.panic c) (a.put o0.dst v0) w → Q (.panic c) a w) (hy : YieldsD P l.toArray D o0 v0 a) (hCD : ∀ w, C w → D w) (hC : C w.drew)
    (h : wpQuietIn Fence.wide m P l.toArray C (fun a' => ∀ w', C w' → ∀ K : Act → World → Prop, (∀ a'' w'', D w'' → wpListIn Fence.wide m P l.toArray Q (l.drop (n + 1)) a'' w'' → K a'' w'') → Oper.wpIn Fence.wide m P on a' w' K Q) ((l.drop 1).take (n - 1)) (a.put o0.dst v0)) :
    (Code.region id l.toArray true).wp P Q a w :=
  wpIn_wide.1 (wpIn_region_any hm (any_late n rfl hB o0 on h0 hon hgn v0 hQ hy hCD hC h))
theorem yieldsD_load {P : Program} {ops : Array Oper} {o : Oper} {a : Act} (hgd : o.guard = none) (ty : TypeId) (x : Operand) (ho : o.op = .load ty x) (e : TypeId) (hu : P.underlying ty = some (.slice e)) (b : Nat) (hx : a.eval x = .pointer (some ⟨b, 0, none⟩)) (v : Value) :
    YieldsD P ops (fun w => w.cell? ⟨b, 0, none⟩ = some v) o v a := by
  refine ⟨by simp [Region.wanted, hgd], fun w hw => ?_, fun w => by simp [Oper.about, ho]⟩
  have hagg : (isAgg ty).run P w = .ok false w := by
    unfold isAgg
    rw [Sem.run_bind, run_underlying hu w]
    rfl
  simp [execOp, ho, hx, Instr.loadAt, Instr.sureAddr, loadVar, Sem.run_bind, hagg, run_load, hw]
theorem sliceIn {F : Fence} {n : Nat} {P : Program} {o : Oper} {a : Act} {w : World} {K : Act → World → Prop} {Q : Exit → Act → World → Prop} (t e : TypeId) (len : Nat) (parts : Array (Nat × Operand)) (ho : o.op = .buildSlice t len parts)
    (cells : Array Value) (ie : TypeInfo) (z : Value)
    (hu : P.underlying t = some (.slice e)) (hie : P.info? e = some ie) (hz : ie.zero = some z) (hsmall : ¬ len * ie.size > 2 ^ 24) (hpos : ¬ len * ie.size = 0)
    (hf : Instr.fill (fun i => some (i * ie.size, ie.size)) ((Array.range (len * ie.size)).map (z.cells[· % z.cells.size]!)) (parts.map fun (i, x) => (i, a.eval x)).toList = some cells)
    (h : K (a.put o.dst (.slice (some ⟨w.heap.size, 0, none⟩) len len)) (w.alloc (.cells cells e))) : o.wpIn F n P a w K Q := by
  unfold Oper.wpIn
  refine ⟨by simp [Oper.about, ho], ?_⟩
  rw [Oper.semAt_plain F _ _ (by rw [ho]; intro c hc'; cases hc')]
  unfold execOp
  simp only [ho, Sem.run_bind, run_buildSlice w t e len _ cells ie z hu hie hz hsmall hpos hf, Result.andThen_ok]
  exact h
end Go.PM
namespace Go.Proofs.YtcpibkffeenehaaDoor
open Go.RowKit Go.PM
theorem sliceIn_mv {F : Fence} {n : Nat} {o : Oper} {a : Act} {w : World} {K : Act → World → Prop} {Q : Exit → Act → World → Prop} (x : Operand) (ho : o.op = .buildSlice 25 1 #[(0, x)]) (s t : ByteArray) (hx : a.eval x = .agg #[.string s, .string t])
    (h : K (a.put o.dst (.slice (some ⟨w.heap.size, 0, none⟩) 1 1)) (w.alloc (.cells #[.string s, .string t] 60))) : o.wpIn F n Tryd.prog a w K Q := by
  obtain ⟨i0, hi0, hz0, hz1, hz2⟩ := info_parts infoMv
  refine sliceIn 25 60 1 #[(0, x)] ho #[.string s, .string t] i0 _ Tryd.underlying25 hi0 hz0 (by rw [hz1]; decide) (by rw [hz1]; decide) ?_ h
  have hr : Array.range 2 = #[0, 1] := by decide
  simp [hx, hz1, Instr.fill, Value.cells, hr]
theorem listIn_mv {F : Fence} {k : Nat} {ops : Array Oper} {rest : List Oper} {o : Oper} {a : Act} {Q : Exit → Act → World → Prop} {w : World} (hgd : o.guard = none) (s x : Operand)
    (ho : o.op = .call { callee := .builtin .append, args := #[s, x], argTypes := #[25, 25] })
    (base : Nat) (v : Value) (ys : List Mv) (m : Mv) (ad : Addr) (c : Nat) (hs : a.eval s = v) (hx : a.eval x = .slice (some ad) 1 c)
    (hown : w.ownsRow base 60 2 v ys.length (mcells ys)) (hnew : ∀ j u, [Value.string m.1, Value.string m.2][j]? = some u → w.cell? (ad.add j) = some u)
    (hlen : ys.length ≤ 1048576) (hbase : base ≤ w.heap.size)
    (h : ∀ v' w', w'.ownsRow base 60 2 v' (ys ++ [m]).length (mcells (ys ++ [m])) → w.grownBy w' v.ownBlock → wpListIn F k Tryd.prog ops Q rest (a.put o.dst v') w') : wpListIn F k Tryd.prog ops Q (o :: rest) a w := by
  obtain ⟨i0, hi0, hz0, hz1, hz2⟩ := info_parts infoMv
  refine wpListIn_append_own w hgd s x _ ho base 60 i0 _ 2 32 Tryd.underlying25 hi0 hz0 hz1 hz2 rfl (by omega) v ys.length (mcells ys) hs hown ad 1 c [Value.string m.1, Value.string m.2] hx rfl hnew
    (by intro u hu; simp at hu; rcases hu with rfl | rfl <;> rfl) (by simp only [maxLen]; omega) (by omega) hbase ?_
  intro v' w' h2 h3 _
  refine h v' w' ?_ h3
  rw [mcells_append, List.length_append]
  simpa [mcells] using h2
end Go.Proofs.YtcpibkffeenehaaDoor
namespace Go.PF
open Go.PM Go.PD Go.RowKit Go.Lib
theorem all_pre {α : Type} {p : α → Bool} {pre xs : List α} (h : pre <+: xs) (hn : pre.all p = false) : xs.all p = false := by
  obtain ⟨r, rfl⟩ := h
  rw [List.all_append, hn]; rfl
theorem kf_cells {B : Nat} {A A' : World} {row : Option Nat} (hg : A.grownBy A' row) (hr : ∀ g o, row = some g → B ≤ g → A.heap[g]? = some o → o.isCells = true) : KeepsFrom B A A' :=
  ⟨hg.size, fun k o hk h1 h2 => (hg.block k (Array.getElem?_eq_some_iff.1 h1).1 (fun e => by have := hr k o e.symm hk h1; rw [h2] at this; cases this)).trans h1⟩
theorem all_snoc {α : Type} (p : α → Bool) (pre : List α) (x : α) : (pre ++ [x]).all p = (pre.all p && p x) := by simp
end Go.PF
namespace Go.Proofs.YtcpibkffeenehaaDoor
open Go.RowKit Go.PM Go.PD Go.PF Go.Lib
attribute [local go_sem] Oper.semAt_some

theorem parValid_c (s : ByteArray) (w : World) :
    Calls Tryd.prog 52 #[.string s] w fun e w' => e = .returned (.bool (parOk s.data.toList)) ∧ w = w' := by
  have HR := Lib.hid (fun W => areReg_c s W)
  have HO : Hid (parOk s.data.toList = (decide (1 ≤ s.size ∧ s.size ≤ 4) && decide (s.data.toList.Nodup ∧ ∀ c ∈ s.data.toList, c ∈ regsL))) := by
    show _ = _
    unfold parOk
    rw [size_data]
  generalize parOk s.data.toList = po at *
  generalize decide (s.data.toList.Nodup ∧ ∀ c ∈ s.data.toList, c ∈ regsL) = rr at *
  by_cases h1 : 1 ≤ s.size
  · by_cases h2 : s.size ≤ 4
    · have t1 : (1 : Int) ≤ (s.size : Int) := by omega
      have t2 : (s.size : Int) ≤ 4 := by omega
      have HO2 : Hid (po = rr) := by show _ = _; rw [HO.out, decide_eq_true ⟨h1, h2⟩]; rfl
      clear HO h1 h2
      go_enter Tryd.func52, Tryd.ntmps52
      go_wp2_with (go_at_call 83; refine (HR.out _).mono ?_; rintro e w' ⟨rfl, rfl⟩)
      go_ret
      exact ⟨by rw [HO2.out]; rfl, rfl⟩
    · have t1 : (1 : Int) ≤ (s.size : Int) := by omega
      have t2 : ¬ (s.size : Int) ≤ 4 := by omega
      have HO2 : Hid (po = false) := by show _ = _; rw [HO.out, decide_eq_false (fun h => h2 h.2)]; rfl
      clear HO h1 h2
      go_enter Tryd.func52, Tryd.ntmps52
      go_wp2
      go_ret
      exact ⟨by rw [HO2.out]; rfl, rfl⟩
  · have t1 : ¬ (1 : Int) ≤ (s.size : Int) := by omega
    have HO2 : Hid (po = false) := by show _ = _; rw [HO.out, decide_eq_false (fun h => h1 h.1)]; rfl
    clear HO h1
    go_enter Tryd.func52, Tryd.ntmps52
    go_wp2
    go_ret
    exact ⟨by rw [HO2.out]; rfl, rfl⟩
theorem parName_c (s : ByteArray) (k : Nat) (hk : k < s.size) (hs : s.size ≤ 1048576) (w : World) :
    Calls Tryd.prog 78 #[.string s, .int .i64 k] w fun e w' => e = .returned (.string (s.extract k (k + 1))) ∧ w = w' := by
  have i0 : (0 : Int) ≤ (k : Int) := by omega
  have i1 : (k : Int) < (s.size : Int) := by omega
  have i2 : (k : Int) + 1 ≤ (s.size : Int) := by omega
  go_enter Tryd.func78, Tryd.ntmps78
  go_wp2
  go_ret
  exact ⟨rfl, rfl⟩
set_option maxRecDepth 100000 in
set_option maxHeartbeats 2000000 in
theorem parArgs_c (s : ByteArray) (f : Nat → ByteArray) (hs : s.size ≤ 1048576) (hP : ∀ c ∈ s.data.toList, isP (ch c) = true) (hZ : ∀ c ∈ s.data.toList, (behF f (ch c)).size = 1) (w : World) :
    Calls Tryd.prog 54 #[.string s, tabX f] w fun e w' => e = .returned (.string (arB (behF f) s.data.toList)) ∧ Below w.heap.size w w' := by
  have HNM := Lib.hid (fun k hk W => parName_c s k hk hs W)
  have HBE := Lib.hid (fun q h W => behind_c f q h W)
  have HST := Lib.hid (fun k hk => arB_step (behF f) s k hk)
  have HSZ : Hid (∀ k, k ≤ s.size → (arB (behF f) (s.data.toList.take k)).size = k) := fun k hk => by
    rw [arB_size (fun c hc => hZ c (List.mem_of_mem_take hc)), List.length_take, size_data]; omega
  have HF : Hid (arB (behF f) (s.data.toList.take s.size) = arB (behF f) s.data.toList) := by
    show _ = _
    rw [List.take_of_length_le (by rw [size_data]; exact Nat.le_refl _)]
  have H0 : Hid (arB (behF f) (s.data.toList.take 0) = ⟨#[]⟩) := rfl
  have H1 : Hid (∀ k, k < s.size → isS (s.extract k (k + 1)) = true ∧ (behF f (s.extract k (k + 1))).size = 1) := fun k hk => by
    have hl : k < s.data.toList.length := by rw [size_data]; exact hk
    rw [extract_one s k hk, List.getD_eq_getElem?_getD, List.getElem?_eq_getElem hl]
    have h2 := hP _ (List.getElem_mem hl)
    refine ⟨?_, hZ _ (List.getElem_mem hl)⟩
    show isS (ch s.data.toList[k]) = true
    unfold isS; rw [h2]; rfl
  clear hP hZ
  generalize hS : behF f = S at *
  have HFS := Lib.hid hS
  clear hS
  generalize s.data.toList = l at *
  have k0 : At (w.alloc (.cells (tabA f) 63)) w.heap.size 63 (tabC f) := At.new w 63 (tabA f)
  have hB0 : Below w.heap.size w (w.alloc (.cells (tabA f) 63)) := (Below.refl _ _).alloc (Nat.le_refl _) _
  go_enter Tryd.func54, Tryd.ntmps54
  go_wp2
  generalize (w.alloc (.cells (tabA f) 63)) = W0 at *
  go_loopw [5, 6, 9] (fun o _ i wr => ∃ (k : Nat), k ≤ s.size ∧ i = .int .i64 k ∧ o = .string (arB S (l.take k)) ∧ At wr w.heap.size 63 (tabC f) ∧ Below w.heap.size w wr) (fun _ _ i _ => s.size - (RowKit.intOf i).toNat)
  case atStart => exact ⟨0, by omega, rfl, by rw [H0.out], k0, hB0⟩
  case round =>
    clear k0 hB0
    obtain ⟨k, hk, rfl, rfl, h1, hb⟩ := hrel
    have hbs := hb.size
    by_cases hlt : k < s.size
    · have i0 : (0 : Int) ≤ (k : Int) := by omega
      have i1 : (k : Int) < (s.size : Int) := by omega
      have HSS := Lib.hid (HST.out k hlt)
      have hz := HSZ.out k hk
      obtain ⟨hq, hz1⟩ := H1.out k hlt
      have HN := Lib.hid (HNM.out k hlt)
      have hbe := fun (x : Ext wr.heap.size wr) => HBE.out (s.extract k (k + 1)) hq x.val
      have HB := Lib.hid hbe
      have hl1 := h1.lt
      have hC1 := At.ext (W := wr) (B := wr.heap.size) h1 hl1
      clear hbe
      generalize arB S (l.take k) = cur at *
      generalize s.extract k (k + 1) = q at *
      generalize S q = sq at *
      go_wp2
      refine wp_region_ext wr.heap.size (by kernel_rfl) (by kernel_rfl) ?_
      go_big_quiet_step (fail)
      refine row_step rfl 63 (.tmp 3) rfl w.heap.size 63 (tabC f) (by rfl) hC1 9 9 Tryd.underlying63 (by kernel_rfl) ?_
      simp only [Act.put, List.setIfInBounds_toArray, List.set_cons_succ, List.set_cons_zero]
      repeat (go_big_quiet_step (first | (go_at_call 78; exact ext_same _ (HN.out _)) | (go_at_call 86; exact ext_call _ (Nat.le_refl _) (HB.out _))))
      refine wpQuiet_nil ?_
      intro w2 hw'
      obtain ⟨xw, hxw⟩ := hw'
      have hb2 := xw.property
      rw [← hxw] at hb2
      clear hxw xw
      have hbw := hb.trans (hb2.mono hbs)
      have h2 := h1.keep hb2
      clear hb2 hC1 h1 hb
      go_wp2
      go_roundw
      case rel => exact ⟨k + 1, by omega, by go_num, by rw [← HSS.out], h2, hbw⟩
      case measure => simp [RowKit.intOf]; omega
    · have HK : Hid (k = s.size) := by show _ = _; omega
      have i1 : ¬ (k : Int) < (s.size : Int) := by omega
      go_wp2
      go_ret
      exact ⟨by rw [← HF.out, HK.out]; rfl, hb⟩
theorem results_ta (W : World) (b : Nat) (v : Value) (h1 : At W b 4 #[v]) (tmps : Array Value) (e1 : tmps.getD 4 undef = .pointer (some ⟨b, 0, none⟩)) :
    (results Tryd.f53 tmps).run Tryd.prog W = .ok v W := by
  have q1 : W.cell? ⟨b, 0, none⟩ = some v := h1.cell 0
  have e1' : tmps[4]?.getD undef = .pointer (some ⟨b, 0, none⟩) := by simpa using e1
  simp [results, Tryd.results53, go_sem, e1', q1]
set_option maxRecDepth 100000 in
set_option maxHeartbeats 3200000 in
theorem takeAll_c (s : ByteArray) (f : Nat → ByteArray) (w : World) :
    Calls Tryd.prog 53 #[.string s, tabX f] w fun e w' => e = .returned (.bool ((mvT (noIdle f) (List.range 9)).all (inPs s.data.toList))) ∧ Below w.heap.size w w' := by
  have HCN : Hid (∀ (a : ByteArray) (W : World), a.size = 1 → Calls Tryd.prog 85 #[.string s, .string a] W fun e w' => e = .returned (.bool (decide (hd1 a ∈ s.data.toList))) ∧ W = w') := fun a W ha => by
    obtain ⟨c, rfl⟩ := one_of_size ha
    exact (Tryd.strings_Contains_one s c W).mono fun _ _ ⟨e1, e2⟩ => ⟨by rw [e1]; congr 2; simp only [indexByte_mem]; rfl, e2.symm⟩
  have HSZ : Hid (∀ m ∈ mvT (noIdle f) (List.range 9), m.1.size = 1) := fun m hm => by
    obtain ⟨p, _, rfl⟩ := List.mem_map.1 hm
    rfl
  have HSN := Lib.hid (fun (pre : List Mv) (x : Mv) => all_snoc (inPs s.data.toList) pre x)
  have HIN : Hid (∀ x : Mv, inPs s.data.toList x = decide (hd1 x.1 ∈ s.data.toList)) := fun _ => rfl
  have HPR := Lib.hid (fun (pre xs : List Mv) h hn => all_pre (p := inPs s.data.toList) (pre := pre) (xs := xs) h hn)
  refine (callsIn_wide (n := 5)).1 ?_
  refine callsIn_of_wp_marks Tryd.func53 rfl trivial ?_ rfl
  simp only [Tryd.ntmps53, List.size_toArray, List.length_cons, List.length_nil, Nat.reduceAdd, Nat.reduceSub, Array.replicate_succ, Array.replicate_zero, List.push_toArray, List.append_toArray, List.nil_append, List.cons_append]
  obtain ⟨W0, hW0⟩ : ∃ W0 : World, W0 = ((w.alloc (.cells #[.string s] 54)).alloc (.cells (tabA f) 63)).alloc (.cells #[.bool false] 4) := ⟨_, rfl⟩
  have hS0 : W0.heap.size = w.heap.size + 1 + 1 + 1 := by rw [hW0]; simp only [World.size_alloc]
  have hB0 : Below w.heap.size w W0 := by rw [hW0]; (repeat' (first | (with_reducible exact Below.refl _ _) | (with_reducible assumption) | (with_reducible refine Below.alloc ?_ ?_ _) | (with_reducible refine Below.drew ?_) | (with_reducible refine Below.setCell ?_ ?_ _) | (with_reducible exact Nat.le_refl _) | omega | ((repeat (first | rewrite [World.size_alloc] | rewrite [World.size_setCell] | rewrite [World.size_drew])); omega) | (simp; omega) | (simp; done)))
  have x0 : At W0 w.heap.size 54 #[.string s] := by rw [hW0]; exact ((At.new _ _ _).alloc _).alloc _
  have x1 : At W0 (w.heap.size + 1) 63 (tabC f) := by
    rw [hW0]
    have := (At.new (w.alloc (.cells #[.string s] 54)) 63 (tabA f)).alloc (.cells #[.bool false] 4)
    rw [World.size_alloc] at this
    exact this
  have x2 : At W0 (w.heap.size + 1 + 1) 4 #[.bool false] := by
    rw [hW0]
    have := At.new ((w.alloc (.cells #[.string s] 54)).alloc (.cells (tabA f) 63)) 4 #[.bool false]
    simp only [World.size_alloc] at this
    exact this
  gi_wp2_with (refine ldIn_row rfl 63 (.tmp 3) rfl (w.heap.size + 1) 63 (tabC f) (by rw [← hW0]; exact x1) (by rfl) 9 9 Tryd.underlying63 (by kernel_rfl) ?_)
  rw [← hW0]
  refine ⟨trivial, callsIn_wide.2 ((idle_v f _).mono ?_)⟩
  rintro e W5 ⟨rfl, hb5⟩
  replace x0 := x0.keep hb5
  replace x2 := x2.keep hb5
  have hB5 := hB0.trans (hb5.mono hB0.size)
  have hs5 : w.heap.size + 3 ≤ W5.heap.size := by have := hb5.size; omega
  clear x1 hb5 hB0 hW0 hS0
  gi_wp2
  refine range_law2 (F := Fence.wide) (gf := 84) (lf := #[tabX (noIdle f)]) (lb := #[]) rfl (by decide) rfl trivial (fun args w => rfl) (encs := fun m : Mv => #[.agg #[.string m.1, .string m.2]]) (xs := mvT (noIdle f) (List.range 9)) (κ := 2)
    (moves_iter (noIdle f)) (fun _ => rfl)
    (fun pre A => Hid (pre.all (inPs s.data.toList) = true) ∧ At A w.heap.size 54 #[.string s] ∧ At A (w.heap.size + 1 + 1) 4 #[.bool false] ∧ Below w.heap.size w A)
    (fun c pre A => c = .ret ∧ Hid (pre.all (inPs s.data.toList) = false) ∧ At A (w.heap.size + 1 + 1) 4 #[.bool false] ∧ Below w.heap.size w A)
    ?_ ?_ ?_
    (fun m a' A => ∃ b, At A b 60 #[.string m.1, .string m.2] ∧ a' = { tmps := #[.string s, tabX f, .pointer (some ⟨w.heap.size, 0, none⟩), .pointer (some ⟨w.heap.size + 1, 0, none⟩), .pointer (some ⟨w.heap.size + 1 + 1, 0, none⟩), .pointer (some ⟨b, 0, none⟩), .agg (tabC f), tabX (noIdle f), .func (.func 84) #[tabX (noIdle f)] #[], .agg #[.string m.1, .string m.2], undef, undef, undef, undef, undef], defers := [] }) ?_ ?_ ?_ ?_ ?_
  · rintro pre A A' row ⟨k0, k1, k2, k3⟩ hg hr
    exact ⟨k0, at_turn k1 hg (fun r e => (hr r e).2), at_turn k2 hg (fun r e => (hr r e).2), k3.trans (below_grown hg k3.size (fun g e => by have := (hr g e).1; omega))⟩
  · rintro c pre A A' row ⟨k0, k1, k2, k3⟩ hg hr
    exact ⟨k0, k1, at_turn k2 hg (fun r e => (hr r e).2), k3.trans (below_grown hg k3.size (fun g e => by have := (hr g e).1; omega))⟩
  · exact ⟨rfl, x0, x2, hB5⟩
  · rintro m a' x A A' row ⟨b, k1, k2⟩ hg hr
    exact ⟨b, at_turn k1 hg (fun r e => (hr r e).2), k2⟩
  · intro l pre m W K hI hp hsz hK
    obtain ⟨k0, k1, k2, k3⟩ := hI
    have r1 : Hid (pre.all (inPs s.data.toList) = true) ∧ At (W.alloc (.cells #[.string m.1, .string m.2] 60)) w.heap.size 54 #[.string s] ∧ At (W.alloc (.cells #[.string m.1, .string m.2] 60)) (w.heap.size + 1 + 1) 4 #[.bool false] ∧ Below w.heap.size w (W.alloc (.cells #[.string m.1, .string m.2] 60)) := ⟨k0, k1.alloc _, k2.alloc _, k3.alloc k3.size _⟩
    have r2 := At.new W 60 #[.string m.1, .string m.2]
    have r3 : KeepsNew W5.heap.size W (W.alloc (.cells #[.string m.1, .string m.2] 60)) := KeepsNew.below ((Below.refl _ _).alloc (Nat.le_refl _) _)
    clear k0 k1 k2 k3
    gi_wp2
    exact hK _ _ r3 r1 ⟨_, r2, rfl⟩
  · clear x0 x2 hB5
    rintro l pre m a' W ⟨k0, k1, k2, k3⟩ ⟨b, q1, rfl⟩ hp hsz
    have hz := HSZ.out m (hp.mem (List.mem_append_right _ (List.mem_singleton_self m)))
    have HCC := Lib.hid (HCN.out m.1 W hz)
    rw [← HIN.out m] at HCC
    have HSS := Lib.hid (HSN.out pre m)
    rw [k0.out, Bool.true_and] at HSS
    have c0 : W.cell? ⟨w.heap.size, 0, none⟩ = some (.string s) := k1.cell 0
    have c1 : W.cell? ⟨b, 0, none⟩ = some (.string m.1) := q1.cell 0
    clear q1 hp
    generalize inPs s.data.toList m = ip at *
    generalize m.1 = y1 at *
    generalize m.2 = y2 at *
    cases ip with
    | true =>
      gi_wp2_with fail
      refine ⟨trivial, CallsIn.inRound l (callsIn_wide.2 (HCC.out.mono ?_))⟩
      rintro e V2 ⟨rfl, rfl⟩
      gi_wp2
      exact ⟨(KeepsNew.refl _ _).from, ⟨Nat.le_refl _, fun x _ _ => rfl⟩, HSS, k1, k2, k3⟩
    | false =>
      gi_wp2_with fail
      refine ⟨trivial, CallsIn.inRound l (callsIn_wide.2 (HCC.out.mono ?_))⟩
      rintro e V2 ⟨rfl, rfl⟩
      have d2 := k2.cell 0
      have f2 := k2.frozen 0
      have g0 := grownBy_setCell' W (w.heap.size + 1 + 1) (.bool false)
      have n2 : At (W.setCell ⟨w.heap.size + 1 + 1, 0, none⟩ (.bool false)) (w.heap.size + 1 + 1) 4 #[.bool false] := k2.set 0 _
      have n3 := k3.trans (below_grown g0 k3.size (fun g e => by cases e; omega))
      have pk : KeepsFrom W5.heap.size W (W.setCell ⟨w.heap.size + 1 + 1, 0, none⟩ (.bool false)) := kf_cells (B := W5.heap.size) g0 (fun g o e hge _ => by cases e; omega)
      clear k1 k2 k3 g0
      gi_wp2
      exact ⟨pk, rfl, HSS, n2, n3⟩
  · clear x0 x2 hB5
    intro D W hD hI hd
    obtain ⟨k0, k1, k2, k3⟩ := hI
    have hWs := k3.size
    have d2 := k2.cell 0
    have f2 := k2.frozen 0
    have g0 := grownBy_setCell' W (w.heap.size + 1 + 1) (.bool true)
    have n2 : At (W.setCell ⟨w.heap.size + 1 + 1, 0, none⟩ (.bool true)) (w.heap.size + 1 + 1) 4 #[.bool true] := k2.set 0 _
    have n3 := k3.trans (below_grown g0 k3.size (fun g e => by cases e; omega))
    have hd2 : (W.setCell ⟨w.heap.size + 1 + 1, 0, none⟩ (.bool true)).heap[D]? = some (.deferred (some [])) :=
      (g0.block D (Array.getElem?_eq_some_iff.1 hd).1 (by simp; omega)).trans hd
    clear k1 k2 k3 g0
    gi_wp2
    refine ⟨by simp, .inl ⟨D, _, rfl, run_takeDeferred hd2, ?_⟩⟩
    have hrow : ∀ r, (some D : Option Nat) = some r → ∃ o' : Obj, (W.setCell ⟨w.heap.size + 1 + 1, 0, none⟩ (.bool true)).heap[r]? = some o' ∧ o'.isCells = false := fun r e => by cases e; exact ⟨_, hd2, rfl⟩
    refine ⟨_, results_ta _ _ _ (at_turn n2 (grownBy_putObj' _ D _) hrow) _ rfl, by rw [k0.out], n3.trans ⟨rfl, rfl, rfl, by simp [World.putObj], fun k hk => World.putObj_heap_other (by omega)⟩⟩
  · clear x0 x2 hB5
    rintro D c pre W hD hp ⟨rfl, k0, k2, k3⟩ hd
    have HN := Lib.hid (HPR.out pre _ hp k0.out)
    have hWs := k3.size
    gi_wp2
    refine ⟨by simp, .inl ⟨D, _, rfl, run_takeDeferred hd, ?_⟩⟩
    have hrow : ∀ r, (some D : Option Nat) = some r → ∃ o' : Obj, W.heap[r]? = some o' ∧ o'.isCells = false := fun r e => by cases e; exact ⟨_, hd, rfl⟩
    refine ⟨_, results_ta _ _ _ (at_turn k2 (grownBy_putObj' _ D _) hrow) _ rfl, by rw [HN.out], k3.trans ⟨rfl, rfl, rfl, by simp [World.putObj], fun k hk => World.putObj_heap_other (by omega)⟩⟩
end Go.Proofs.YtcpibkffeenehaaDoor
namespace Go.Proofs.YtcpibkffeenehaaDoor
open Go.RowKit Go.PM Go.PD Go.PF
attribute [local go_sem] Oper.semAt_some

set_option maxRecDepth 100000 in
set_option maxHeartbeats 2000000 in
theorem parCall_c (s : ByteArray) (qs : List ByteArray) (A : Option Addr) (cap : Nat) (hs : s.size ≤ 1048576) (w : World) (hx : RdT w (.slice A qs.length cap) qs) (hq : qs.length ≤ 1048576) :
    Calls Tryd.prog 44 #[.string s, .slice A qs.length cap] w fun e w' => ∃ v', e = .returned (.tuple #[v', .bool (callOk s.data.toList qs)]) ∧ w'.ownsRow w.heap.size 60 2 v' (callL s.data.toList qs).length (mcells (callL s.data.toList qs)) ∧ Below w.heap.size w w' := by
  have HV := Lib.hid (fun W => parValid_c s W)
  have HOK : Hid (callOk s.data.toList qs = ((parOk s.data.toList && decide (qs.length = s.size)) && qs.all isS)) := by
    show _ = _
    unfold callOk
    rw [size_data]
  have HN0 := Lib.hid (fun h => callL_no (ps := s.data.toList) (qs := qs) h)
  have HY0 := Lib.hid (fun h => callL_yes (ps := s.data.toList) (qs := qs) h)
  have hown0 : ∀ W : World, W.ownsRow w.heap.size 60 2 (.slice none 0 0) ([] : List Mv).length (mcells []) := fun W => ⟨rfl, .inl ⟨rfl, rfl⟩⟩
  rcases Bool.eq_false_or_eq_true (parOk s.data.toList) with h1 | h1
  · by_cases h2 : qs.length = s.size
    · have hl4 : s.size ≤ 4 := by have := (par_len h1).2; rwa [size_data] at this
      have HXS : Hid (∀ k (hk : k < (pcM s.data.toList qs).length) (h2 : k < qs.length) (h3 : k < s.size), (pcM s.data.toList qs)[k] = (s.extract k (k + 1), qs[k])) := fun k hk h2 h3 => by
        have h4 : k < s.data.toList.length := by rw [size_data]; exact h3
        rw [pcM_at k hk h4 h2, extract_one s k h3, List.getD_eq_getElem?_getD, List.getElem?_eq_getElem h4]; rfl
      have HXL : Hid ((pcM s.data.toList qs).length = qs.length) := by show _ = _; rw [pcM_len (by rw [size_data]; exact h2), size_data, h2]
      have HOK2 : Hid (callOk s.data.toList qs = qs.all isS) := by show _ = _; rw [HOK.out, h1, decide_eq_true h2]; rfl
      have HNO : Hid (∀ k (hk : k < qs.length), isS qs[k] = false → callOk s.data.toList qs = false) := fun k hk h => by
        rw [HOK2.out, List.all_eq_false]
        exact ⟨_, List.getElem_mem hk, by rw [h]; decide⟩
      have HYES : Hid ((∀ k (hk : k < qs.length), isS qs[k] = true) → callOk s.data.toList qs = true) := fun h => by
        rw [HOK2.out, List.all_eq_true]
        intro q hq
        obtain ⟨k, hk, rfl⟩ := List.getElem_of_mem hq
        exact h k hk
      have HNM := Lib.hid (fun k hk W => parName_c s k hk hs W)
      rw [h1] at HV
      obtain ⟨A', cap', hA, hn, hc, hcell⟩ := hx.open
      obtain ⟨rfl, -, rfl⟩ : A = A' ∧ qs.length = qs.length ∧ cap = cap' := by
        injection hA with a1 a2 a3
        exact ⟨a1, a2, by omega⟩
      clear hx h1 HOK HOK2 hA
      generalize callOk s.data.toList qs = ok at *
      generalize callL s.data.toList qs = cl at *
      generalize pcM s.data.toList qs = xs at *
      obtain ⟨i0, hi0, hz0, hz1, hz2⟩ := info_parts infoMv
      have hmk := fun W : World => run_make (P := Tryd.prog) W 25 60 i0 _ Tryd.underlying25 hi0 hz0 .i64 .i64 qs.length qs.length (by omega) (Int.le_refl _) (by rw [hz2]; omega) (by omega)
      simp only [Int.toNat_natCast, hz1] at hmk
      have hO := own_made w w.heap.size 60 #[Value.string ⟨#[]⟩, Value.string ⟨#[]⟩] 2 qs.length rfl (by omega) (by omega) (Nat.le_refl _)
      have hB : Below w.heap.size w (w.alloc (Obj.cells (madeCells #[Value.string ⟨#[]⟩, Value.string ⟨#[]⟩] (qs.length * 2)) 60)) := (Below.refl _ _).alloc (Nat.le_refl _) _
      have HZ0 : Hid (half xs 0 = (List.replicate qs.length [Value.string ⟨#[]⟩, Value.string ⟨#[]⟩]).flatten) := by show _ = _; rw [half_zero, HXL.out]
      have t2 : (((qs.length : Nat) : Int) == ((s.size : Nat) : Int)) = true := by simp [h2]
      have t3 : (((qs.length : Nat) : Int) != ((s.size : Nat) : Int)) = false := by simp [h2]
      have H2 := Lib.hid h2
      clear h2
      go_enter Tryd.func44, Tryd.ntmps44
      go_wp2_with (go_at_call 52; refine (HV.out _).mono ?_; rintro e w' ⟨rfl, rfl⟩)
      generalize (w.alloc (Obj.cells (madeCells #[Value.string ⟨#[]⟩, Value.string ⟨#[]⟩] (qs.length * 2)) 60)) = W1 at *
      go_loopw [7, 8, 24] (fun _ _ i wr => ∃ (k : Nat), k ≤ qs.length ∧ i = .int .i64 k ∧ Hid (∀ j (hj : j < qs.length), j < k → isS qs[j] = true) ∧ wr.ownsRow w.heap.size 60 2 (.slice (some ⟨w.heap.size, 0, none⟩) qs.length qs.length) qs.length (half xs k) ∧ Below w.heap.size w wr) (fun _ _ i _ => qs.length - (RowKit.intOf i).toNat)
      case atStart => exact ⟨0, by omega, rfl, fun j _ hj => absurd hj (Nat.not_lt_zero j), by rw [HZ0.out]; exact hO, hB⟩
      case round =>
        clear hO hB
        obtain ⟨k, hk, rfl, hall, ho, hb⟩ := hrel
        have hbs := hb.size
        by_cases hlt : k < qs.length
        · obtain ⟨b, off, rfl, hbl, hc1⟩ := hcell k hlt
          have hd1 := (hb.cell (p := ⟨b, off + k, none⟩) hbl).trans hc1
          have hks : k < s.size := by have := H2.out; omega
          have hkx : k < xs.length := by rw [HXL.out]; exact hlt
          have hxk := HXS.out k hkx hlt hks
          have hset := half_set xs k hkx
          have hat := half_at xs k hkx
          rw [hxk] at hset
          have HSET := Lib.hid hset
          have HNK := Lib.hid (HNO.out k hlt)
          have HNX : Hid (isS qs[k] = true → ∀ j (hj : j < qs.length), j < k + 1 → isS qs[j] = true) := fun h j hj hjk => by
            by_cases e : j = k
            · subst e; exact h
            · exact hall.out j hj (by omega)
          have HIS := Lib.hid (fun W => isSource_c qs[k] W)
          have HNA := Lib.hid (HNM.out k hks)
          clear hc1 hcell hset hxk
          have hf1 := ho.frozenAt (k * 2)
          have hf2 := ho.frozenAt (k * 2 + 1)
          have hg1 := (ho.cellAt (k * 2) (by omega)).trans hat.1
          have hg2 := (ho.cellAt (k * 2 + 1) (by omega)).trans hat.2
          have hol := (own_lt ho).1
          have i0' : (0 : Int) ≤ (k : Int) := by omega
          have i1' : (k : Int) < (qs.length : Int) := by omega
          clear hat
          generalize qs[k] = q at *
          generalize s.extract k (k + 1) = nmk at *
          rcases Bool.eq_false_or_eq_true (isS q) with hs1 | hs1
          · rw [hs1] at HIS
            have HK := Lib.hid (HNX.out hs1)
            clear hs1
            go_wp2_with (first | (go_at_call 77; refine (HIS.out _).mono ?_; rintro e w' ⟨rfl, rfl⟩) | (go_at_call 78; refine (HNA.out _).mono ?_; rintro e w' ⟨rfl, rfl⟩))
            go_roundw
            case rel =>
              refine ⟨k + 1, by omega, by go_num, HK, ?_, ?_⟩
              · rw [← HSET.out]
                exact ((ho.stored (k * 2) _).1.stored (k * 2 + 1) _).1
              · exact (hb.setCell (Nat.le_refl _) _).setCell (Nat.le_refl _) _
            case measure => simp [RowKit.intOf]; omega
          · rw [hs1] at HIS
            have HK := Lib.hid (HNK.out hs1)
            clear hs1
            go_wp2_with (first | (go_at_call 77; refine (HIS.out _).mono ?_; rintro e w' ⟨rfl, rfl⟩))
            go_ret2
            exact ⟨_, by rw [HK.out]; rfl, by rw [HN0.out HK.out]; exact hown0 _, hb⟩
        · have HT : Hid (ok = true) := HYES.out fun j hj => hall.out j hj (by omega)
          have hk' : k = qs.length := by omega
          have ho2 := ho
          rw [hk', ← HXL.out, half_full] at ho2
          have HO3 : Hid (wr.ownsRow w.heap.size 60 2 (.slice (some ⟨w.heap.size, 0, none⟩) qs.length qs.length) xs.length (mcells xs)) := by
            have := ho2
            rw [show (Value.slice (some ⟨w.heap.size, 0, none⟩) xs.length xs.length) = (Value.slice (some ⟨w.heap.size, 0, none⟩) qs.length qs.length) by rw [HXL.out]] at this
            exact this
          have i1' : ¬ (k : Int) < (qs.length : Int) := by omega
          clear hcell ho2 ho hk'
          go_wp2
          go_ret2
          exact ⟨_, by rw [HT.out]; rfl, by rw [HY0.out HT.out]; exact HO3.out, hb⟩
    · have HK : Hid (callOk s.data.toList qs = false) := by show _ = _; rw [HOK.out, h1, decide_eq_false h2]; rfl
      have t2 : (((qs.length : Nat) : Int) == ((s.size : Nat) : Int)) = false := by simp; omega
      have t3 : (((qs.length : Nat) : Int) != ((s.size : Nat) : Int)) = true := by simp; omega
      rw [h1] at HV
      clear h1 h2 HOK
      go_enter Tryd.func44, Tryd.ntmps44
      go_wp2_with (go_at_call 52; refine (HV.out _).mono ?_; rintro e w' ⟨rfl, rfl⟩)
      go_ret2
      exact ⟨_, by rw [HK.out]; rfl, by rw [HN0.out HK.out]; exact hown0 _, Below.refl _ _⟩
  · have HK : Hid (callOk s.data.toList qs = false) := by show _ = _; rw [HOK.out, h1]; rfl
    rw [h1] at HV
    clear h1 HOK
    go_enter Tryd.func44, Tryd.ntmps44
    go_wp2_with (go_at_call 52; refine (HV.out _).mono ?_; rintro e w' ⟨rfl, rfl⟩)
    go_ret2
    exact ⟨_, by rw [HK.out]; rfl, by rw [HN0.out HK.out]; exact hown0 _, Below.refl _ _⟩
set_option maxHeartbeats 800000 in
theorem imMovesFor_c (ps az : ByteArray) (hp : ps.size ≤ 1048576) (ha : az.size ≤ 1048576) (w : World) (hT : U8w w) :
    Calls Tryd.prog 14 #[.string ps, .string az] w fun e w' => ∃ v', e = .returned (.tuple #[v', .bool (clOk ps.data.toList az.data.toList)]) ∧ w'.ownsRow w.heap.size 60 2 v' (clL ps.data.toList az.data.toList).length (mcells (clL ps.data.toList az.data.toList)) ∧ Below w.heap.size w w' := by
  have HS := Lib.hid (split_c az ha w hT)
  go_enter Tryd.func14, Tryd.ntmps14
  go_wp2_with fail
  refine HS.out.mono ?_
  rintro e w1 ⟨A, qs, rfl, hR, hq, hP, hb1⟩
  have hs1 := hb1.size
  obtain ⟨e1, e2⟩ := call_eq (ps := ps.data.toList) hP
  have HC := Lib.hid (parCall_c ps qs A qs.length hp w1 hR hq)
  rw [e1, e2] at HC
  clear hR hP e1 e2 hq
  go_wp2_with fail
  refine HC.out.mono ?_
  rintro e w2 ⟨v', rfl, ho, hb2⟩
  go_wp2
  go_ret2
  exact ⟨_, rfl, own_more ho hs1, hb1.trans (hb2.mono hs1)⟩
theorem imCallValid_c (ps az : ByteArray) (hp : ps.size ≤ 1048576) (ha : az.size ≤ 1048576) (w : World) (hT : U8w w) :
    Calls Tryd.prog 20 #[.string ps, .string az] w fun e w' => e = .returned (.bool (clOk ps.data.toList az.data.toList)) ∧ Below w.heap.size w w' := by
  have HS := Lib.hid (imMovesFor_c ps az hp ha w hT)
  generalize clOk ps.data.toList az.data.toList = ok at *
  go_enter Tryd.func20, Tryd.ntmps20
  go_wp2_with fail
  refine HS.out.mono ?_
  rintro e w1 ⟨v', rfl, ho, hb1⟩
  go_wp2
  go_ret
  exact ⟨rfl, hb1⟩
end Go.Proofs.YtcpibkffeenehaaDoor
namespace Go.PM
open Go.RowKit
theorem compM_len (xs ys : List Mv) : (compM xs ys).length ≤ 9 := by
  unfold compM
  split
  · exact lsF_len _ 9
  · simp
theorem compM_yes {xs ys : List Mv} (h1 : mvalid xs = true) (h2 : mvalid ys = true) : compM xs ys = lsF (cmpM xs ys) 9 := by rw [compM, h1, h2]; rfl
theorem compM_no {xs ys : List Mv} (h : (mvalid xs && mvalid ys) = false) : compM xs ys = [] := by rw [compM, h]; rfl
def pwL (xs : List Mv) (n : Nat) : List Mv := lsF (pwF (fun q => srcM xs (nm q)) n) 9
theorem pwL_zero (xs : List Mv) : pwL xs 0 = [] := lsF_nm
theorem pwL_succ (xs : List Mv) (n : Nat) : lsF (cmpM (pwL xs n) xs) 9 = pwL xs (n + 1) := cmpM_pw xs n
theorem pwL_len (xs : List Mv) (n : Nat) : (pwL xs n).length ≤ 9 := lsF_len _ 9
def powOk (xs : List Mv) (n : Int) : Bool := mvalid xs && (decide (0 ≤ n) && decide (n ≤ 60))
theorem powM_yes {xs : List Mv} {n : Int} (h : powOk xs n = true) : powM xs n = pwL xs n.toNat := by
  unfold powOk at h; rw [powM, h]; rfl
theorem powM_no {xs : List Mv} {n : Int} (h : powOk xs n = false) : powM xs n = [] := by
  unfold powOk at h; rw [powM, h]; rfl
theorem powM_len (xs : List Mv) (n : Int) : (powM xs n).length ≤ 9 := by
  unfold powM
  split
  · exact lsF_len _ 9
  · simp
end Go.PM
namespace Go.Proofs.YtcpibkffeenehaaDoor
open Go.RowKit Go.PM

set_option maxRecDepth 100000 in
set_option maxHeartbeats 1000000 in
theorem l4Compose_c (xs ys : List Mv) (v u : Value) (w : World) (hx : RdM w v xs) (hy : RdM w u ys) :
    Calls Tryd.prog 62 #[v, u] w fun e w' => ∃ v', e = .returned v' ∧ w'.ownsRow w.heap.size 60 2 v' (lsF (cmpM xs ys) 9).length (mcells (lsF (cmpM xs ys) 9)) ∧ Below w.heap.size w w' := by
  have HN : Hid (∀ q, q < 9 → (ByteArray.mk #[97, 98, 99, 100, 101, 102, 65, 66, 67]).extract q (q+1) = nm q) := by
    show ∀ q, _
    intro q hq
    match q, hq with
    | 0, _ | 1, _ | 2, _ | 3, _ | 4, _ | 5, _ | 6, _ | 7, _ | 8, _ => decide +kernel
  have HSY := Lib.hid (fun W (hW : RdM W u ys) (a : ByteArray) => l1Source_c ys u a W hW)
  have HSX := Lib.hid (fun W (hW : RdM W v xs) (a : ByteArray) => l1Source_c xs v a W hW)
  have HX := Lib.hid (fun W (hW : Below w.heap.size w W) => hx.below hW)
  have HYB := Lib.hid (fun W (hW : Below w.heap.size w W) => hy.below hW)
  have hE := World.ownsRow_lit (e := 60) (base := w.heap.size) (size := 2) w #[] 0 (Nat.le_refl _) (Nat.zero_le _) rfl
  clear hx hy
  go_enter Tryd.func62, Tryd.ntmps62
  go_wp2
  go_loopw [5, 10] (fun o i wr => ∃ (k : Nat), k ≤ 9 ∧ i = .int .i64 k ∧ wr.ownsRow w.heap.size 60 2 o (lsF (cmpM xs ys) k).length (mcells (lsF (cmpM xs ys) k)) ∧ Below w.heap.size w wr) (fun _ i _ => 9 - (intOf i).toNat)
  case atStart => exact ⟨0, by omega, rfl, hE, by (repeat' (first | (with_reducible exact Below.refl _ _) | (with_reducible assumption) | (with_reducible refine Below.alloc ?_ ?_ _) | (with_reducible refine Below.drew ?_) | (with_reducible refine Below.setCell ?_ ?_ _) | (with_reducible exact Nat.le_refl _) | omega | ((repeat (first | rewrite [World.size_alloc] | rewrite [World.size_setCell] | rewrite [World.size_drew])); omega) | (simp; omega) | (simp; done)))⟩
  case round =>
    obtain ⟨k, hk, rfl, ho, hb⟩ := hrel
    have hbs := hb.size
    by_cases hlt : k < 9
    · have hex := HN.out k hlt
      have hyr := HYB.out wr hb
      have HY := Lib.hid (lsF_yes (cmpM xs ys) k)
      have HZ := Lib.hid (lsF_no (cmpM xs ys) k)
      have hle := lsF_len (cmpM xs ys) k
      have HH := Lib.hid (show lsH (cmpM xs ys) k = decide (cmpM xs ys k ≠ nm k) from rfl)
      have HCM := Lib.hid (cmpM_eq xs ys k)
      have hcall := HSY.out wr hyr (nm k)
      have HC := Lib.hid hcall
      clear hcall hyr
      generalize hsk : srcM ys (nm k) = sk at *
      generalize cmpM xs ys k = cm at *
      generalize nm k = q at *
      go_wp2_with fail
      refine HC.out.mono ?_
      rintro e w2 ⟨rfl, hb2⟩
      have hb2s := hb2.size
      have ho2 := own_keep ho hb2
      have hbw := hb.trans (hb2.mono hbs)
      have hbws := hbw.size
      have hxr := HX.out w2 hbw
      rcases Bool.eq_false_or_eq_true (isP sk) with hp | hp
      · have hcm : cm = srcM xs sk := by rw [HCM.out, if_pos hp]
        have hcall := HSX.out w2 hxr sk
        rw [← hcm] at hcall
        have HC2 := Lib.hid hcall
        clear hcm hcall hxr hb2 hb ho
        rcases Bool.eq_false_or_eq_true (cm.toList == q.toList) with hd | hd
        · have HD := Lib.hid hd
          go_wp2_with (first | (go_at_call 47; refine (l1Place_c _ _).mono ?_; rintro e w' ⟨rfl, rfl⟩; rw [hp]) | (go_at_call 91; refine HC2.out.mono ?_; rintro e w4 ⟨rfl, hb4⟩; refine held ?_))
          unfold Held
          have ho4 := own_keep ho2 hb4
          have hbw4 := hbw.trans (hb4.mono hbws)
          clear ho2 hb4
          go_wp2
          go_roundw
          case rel =>
            have h := HD.out
            rw [beq_str, decide_eq_true_eq] at h
            refine ⟨k + 1, by omega, by go_num, ?_, by (repeat' (first | (with_reducible exact Below.refl _ _) | (with_reducible assumption) | (with_reducible refine Below.alloc ?_ ?_ _) | (with_reducible refine Below.drew ?_) | (with_reducible refine Below.setCell ?_ ?_ _) | (with_reducible exact Nat.le_refl _) | omega | ((repeat (first | rewrite [World.size_alloc] | rewrite [World.size_setCell] | rewrite [World.size_drew])); omega) | (simp; omega) | (simp; done)))⟩
            rw [HZ.out (by rw [HH.out, h]; simp)]; exact ho4
          case measure => simp [intOf]; omega
        · have HD := Lib.hid hd
          go_wp2_with (first | (go_at_call 47; refine (l1Place_c _ _).mono ?_; rintro e w' ⟨rfl, rfl⟩; rw [hp]) | (go_at_call 91; refine HC2.out.mono ?_; rintro e w4 ⟨rfl, hb4⟩; refine held ?_))
          unfold Held
          have hb4s := hb4.size
          have ho4 := own_keep ho2 hb4
          have hbw4 := hbw.trans (hb4.mono hbws)
          have hbw4s := hbw4.size
          have hnw := two_new w4 (.string q) (.string cm) 60
          clear ho2 hb4
          go_wp2_with (at_builtin; refine held ?_)
          unfold Held
          refine app_mv rfl (.tmp 28) (.tmp 32) rfl w.heap.size u5 (lsF (cmpM xs ys) k) (q, cm) ⟨w4.heap.size, 0, none⟩ 1 (by rfl) (by rfl) (own_keep ho4 ((Below.refl _ _).alloc (Nat.le_refl _) _)) hnw (by omega) (by simp; omega) ?_
          intro v' w3 hown3 hgrow3
          have hb3 := below_grown hgrow3 (B := w.heap.size) (by simp; omega) (own_block_ge ho4)
          have hbw3 := Below.trans (hbw4.alloc hbw4s (.cells #[.string q, .string cm] 60)) hb3
          clear hb3 hgrow3 hnw
          go_wp2
          go_roundw
          case rel =>
            have h := HD.out
            rw [beq_str, decide_eq_false_iff_not] at h
            refine ⟨k + 1, by omega, by go_num, ?_, hbw3⟩
            rw [HY.out (by rw [HH.out]; simp [h])]; exact hown3
          case measure => simp [intOf]; omega
      · have hcm : cm = sk := by rw [HCM.out, if_neg (by rw [hp]; decide)]
        have HCC := Lib.hid hcm
        clear hcm hxr hb2 hb ho
        rcases Bool.eq_false_or_eq_true (sk.toList == q.toList) with hd | hd
        · have HD := Lib.hid hd
          go_wp2_with (first | (go_at_call 47; refine (l1Place_c _ _).mono ?_; rintro e w' ⟨rfl, rfl⟩; rw [hp]))
          go_roundw
          case rel =>
            have h := HD.out
            rw [beq_str, decide_eq_true_eq] at h
            refine ⟨k + 1, by omega, by go_num, ?_, by (repeat' (first | (with_reducible exact Below.refl _ _) | (with_reducible assumption) | (with_reducible refine Below.alloc ?_ ?_ _) | (with_reducible refine Below.drew ?_) | (with_reducible refine Below.setCell ?_ ?_ _) | (with_reducible exact Nat.le_refl _) | omega | ((repeat (first | rewrite [World.size_alloc] | rewrite [World.size_setCell] | rewrite [World.size_drew])); omega) | (simp; omega) | (simp; done)))⟩
            rw [HZ.out (by rw [HH.out, HCC.out, h]; simp)]; exact ho2
          case measure => simp [intOf]; omega
        · have HD := Lib.hid hd
          have hnw := two_new w2 (.string q) (.string sk) 60
          go_wp2_with (first | (go_at_call 47; refine (l1Place_c _ _).mono ?_; rintro e w' ⟨rfl, rfl⟩; rw [hp]) | (at_builtin; refine held ?_))
          unfold Held
          refine app_mv rfl (.tmp 28) (.tmp 32) rfl w.heap.size u5 (lsF (cmpM xs ys) k) (q, sk) ⟨w2.heap.size, 0, none⟩ 1 (by rfl) (by rfl) (own_keep ho2 ((Below.refl _ _).alloc (Nat.le_refl _) _)) hnw (by omega) (by simp; omega) ?_
          intro v' w3 hown3 hgrow3
          have hb3 := below_grown hgrow3 (B := w.heap.size) (by simp; omega) (own_block_ge ho2)
          have hbw3 := Below.trans (hbw.alloc hbws (.cells #[.string q, .string sk] 60)) hb3
          clear hb3 hgrow3 hnw
          go_wp2
          go_roundw
          case rel =>
            have h := HD.out
            rw [beq_str, decide_eq_false_iff_not] at h
            refine ⟨k + 1, by omega, by go_num, ?_, hbw3⟩
            rw [HY.out (by rw [HH.out, HCC.out]; simp [h]), HCC.out]; exact hown3
          case measure => simp [intOf]; omega
    · have hk9 : k = 9 := by omega
      subst hk9
      go_wp2
      go_ret
      exact ⟨_, rfl, ho, hb⟩
set_option maxRecDepth 100000 in
theorem l4Power_c (xs : List Mv) (v : Value) (n : Nat) (hn : n ≤ 60) (w : World) (hx : RdM w v xs) :
    Calls Tryd.prog 65 #[v, .int .i64 n] w fun e w' => ∃ v', e = .returned v' ∧ w'.ownsRow w.heap.size 60 2 v' (pwL xs n).length (mcells (pwL xs n)) ∧ Below w.heap.size w w' := by
  have HX := Lib.hid (fun W (hW : Below w.heap.size w W) => hx.below hW)
  have hE := World.ownsRow_lit (e := 60) (base := w.heap.size) (size := 2) w #[] 0 (Nat.le_refl _) (Nat.zero_le _) rfl
  have HZ := Lib.hid (pwL_zero xs)
  have HS := Lib.hid (pwL_succ xs)
  clear hx
  go_enter Tryd.func65, Tryd.ntmps65
  go_wp2
  go_loopw [5, 8] (fun o i wr => ∃ (k : Nat), k ≤ n ∧ i = .int .i64 k ∧ wr.ownsRow w.heap.size 60 2 o (pwL xs k).length (mcells (pwL xs k)) ∧ Below w.heap.size w wr) (fun _ i _ => n - (intOf i).toNat)
  case atStart => exact ⟨0, by omega, rfl, by rw [HZ.out]; exact hE, by (repeat' (first | (with_reducible exact Below.refl _ _) | (with_reducible assumption) | (with_reducible refine Below.alloc ?_ ?_ _) | (with_reducible refine Below.drew ?_) | (with_reducible refine Below.setCell ?_ ?_ _) | (with_reducible exact Nat.le_refl _) | omega | ((repeat (first | rewrite [World.size_alloc] | rewrite [World.size_setCell] | rewrite [World.size_drew])); omega) | (simp; omega) | (simp; done)))⟩
  case round =>
    obtain ⟨k, hk, rfl, ho, hb⟩ := hrel
    have hbs := hb.size
    by_cases hlt : k < n
    · have hlt' : (k : Int) < (n : Int) := by omega
      have hc := l4Compose_c (pwL xs k) xs u5 v wr (Rd.of_own ho) (HX.out wr hb)
      rw [HS.out] at hc
      have HC := Lib.hid hc
      clear hc
      go_wp2_with fail
      refine HC.out.mono ?_
      rintro e w2 ⟨v', rfl, ho2, hb2⟩
      have hbw := hb.trans (hb2.mono hbs)
      have ho3 := own_more ho2 hbs
      go_wp2
      go_roundw
      case rel => exact ⟨k + 1, by omega, by go_num, ho3, hbw⟩
      case measure => simp [intOf]; omega
    · have hk9 : k = n := by omega
      subst hk9
      go_wp2
      go_ret
      exact ⟨_, rfl, ho, hb⟩
end Go.Proofs.YtcpibkffeenehaaDoor
