import Derived.Test.YtinggcjjdgibbabDoorRange3
import Derived.Test.YtinggcjjdgibbabDoorPieces
import Derived.Test.YtinggcjjdgibbabDoorRow
namespace Go.PM
open Go.RowKit
def leftV : Value → Value → Nat
  | .string s, .bool true => s.size + 1
  | _, _ => 0
end Go.PM
namespace Go.Proofs.YtinggcjjdgibbabDoor
open Go.RowKit Go.PM

set_option maxRecDepth 100000 in
set_option maxHeartbeats 1600000 in
theorem parts_iter (t : ByteArray) (c : UInt8) (b1 b2 n : Nat) (ht : t.size ≤ 1048576) (hn : 1 ≤ n) :
    IterP (fun A => At A b1 9 #[.string t] ∧ At A b2 9 #[.string ⟨#[c]⟩]) 0 Fence.wide n Tryd.prog 54 (fun y => #[] ++ #[y] ++ #[.pointer (some ⟨b1, 0, none⟩), .pointer (some ⟨b2, 0, none⟩)]) (fun s : ByteArray => #[.string s]) (pcsB c t) := by
  intro l J Jx W hJ hJx hP hY h0
  obtain ⟨hA1, hA2⟩ := hP _ _ h0
  have c1 : W.cell? ⟨b1, 0, none⟩ = some (.string t) := hA1.cell 0
  have c2 : W.cell? ⟨b2, 0, none⟩ = some (.string ⟨#[c]⟩) := hA2.cell 0
  have HC := Lib.hid (fun s W hs => strCut_c s c W hs)
  have HB := Lib.hid (fun s => pcsB_cut c s)
  have HZ := Lib.hid (fun s => cutB_size c s)
  have HL := Lib.hid (fun s h => cutB_less c s h)
  refine callsIn_of_wp Tryd.func54 rfl trivial ?_ rfl
  simp only [Tryd.ntmps54, List.size_toArray, List.length_cons, List.length_nil, Nat.reduceAdd, Nat.reduceSub, Array.replicate_succ, Array.replicate_zero, List.push_toArray, List.append_toArray, List.nil_append, List.cons_append]
  gi_wp2_with fail
  refine ⟨trivial, callsIn_wide.2 ((HC.out t _ ht).mono ?_)⟩
  rintro e w1 ⟨rfl, hb1⟩
  have h1 := HB.out t
  have hz1 := HZ.out t
  have hJ1 : J [] w1 := hJ _ _ _ none h0 (grown_below hb1 none) (fun r e => by cases e)
  have hs1 := hb1.size
  clear c1 c2 hA1 hA2 h0
  gi_wp2
  gi_loopw [4, 5, 6] (fun part rest more wr => ∃ (pre : List ByteArray) (p r : ByteArray) (m : Bool), part = .string p ∧ rest = .string r ∧ more = .bool m ∧ Hid (pre ++ (if m then p :: pcsB c r else [p]) = pcsB c t) ∧ r.size ≤ 1048576 ∧ J pre wr ∧ W.heap.size ≤ wr.heap.size) (fun _ r m _ => leftV r m)
  case atStart =>
    refine ⟨[], _, _, _, rfl, rfl, rfl, ?_, by omega, hJ1, hs1⟩
    show _ = _
    rw [h1, List.nil_append]
  case round =>
    obtain ⟨pre, p, r, m, rfl, rfl, rfl, hpr, hr, hj, hsz⟩ := hrel
    have hpre : pre ++ [p] <+: pcsB c t := by
      rw [← hpr.out]
      cases m
      · exact List.prefix_refl _
      · exact ⟨pcsB c r, by simp⟩
    obtain ⟨fn, tmps, assign, body, hy, hR⟩ := hY pre p wr hj hsz hpre
    cases m with
    | false =>
      have hx : pre ++ [p] = pcsB c t := hpr.out
      gi_wp2
      refine hR.mono ?_
      rintro e W3 (⟨rfl, hJ3, hK3, _⟩ | ⟨rfl, hJx3, _⟩)
      · rw [hx] at hJ3
        gi_wp2
        go_end0
        exact ⟨⟨_, rfl⟩, .inl hJ3⟩
      · gi_wp2
        go_end0
        exact ⟨⟨_, rfl⟩, .inr ⟨_, hpre, hJx3⟩⟩
    | true =>
      gi_wp2
      refine hR.mono ?_
      rintro e W3 (⟨rfl, hJ3, hK3, _⟩ | ⟨rfl, hJx3, _⟩)
      · have hsz3 := Nat.le_trans hsz hK3.size
        obtain ⟨_, hA2⟩ := hP _ _ hJ3
        have c2 : W3.cell? ⟨b2, 0, none⟩ = some (.string ⟨#[c]⟩) := hA2.cell 0
        have hpx : Hid ((pre ++ [p]) ++ pcsB c r = pcsB c t) := by show _ = _; rw [← hpr.out]; simp
        have hb := HB.out r
        have hzr := HZ.out r
        have hlr := HL.out r
        have hcr := Lib.hid (HC.out r W3 hr)
        generalize cutB r c = q at *
        obtain ⟨p2, r2, m2⟩ := q
        simp only at *
        gi_wp2_with fail
        refine ⟨trivial, callsIn_wide.2 (hcr.out.mono ?_)⟩
        rintro e w4 ⟨rfl, hb4⟩
        have hJ4 : J (pre ++ [p]) w4 := hJ _ _ _ none hJ3 (grown_below hb4 none) (fun r e => by cases e)
        have hs4 := hb4.size
        gi_wp2
        go_roundw
        case rel => exact ⟨pre ++ [p], p2, r2, m2, rfl, rfl, rfl, by show _ = _; rw [← hpx.out, hb], by omega, hJ4, by omega⟩
        case measure =>
          cases m2
          · show 0 < r.size + 1; omega
          · have := hlr rfl
            show r2.size + 1 < r.size + 1
            omega
      · gi_wp2
        go_end0
        exact ⟨⟨_, rfl⟩, .inr ⟨_, hpre, hJx3⟩⟩
end Go.Proofs.YtinggcjjdgibbabDoor
