import Derived.Test.YtiejicffllhglaaIm2
import Derived.Test.YtiejicffllhglaaSp1
namespace Go.Proofs.Ytiejicffllhglaa
open Go.RowKit Go.PM

set_option maxRecDepth 100000 in
set_option maxHeartbeats 400000 in
theorem l1Source_c (xs : List Mv) (v : Value) (a : ByteArray) (w : World) (hx : RdM w v xs) :
    Calls Try.prog 94 #[v, .string a] w fun e w' => e = .returned (.string (srcM xs a)) ∧ Below w.heap.size w w' := by
  obtain ⟨A, cap, rfl, hn, hc, hcell⟩ := hx.open
  go_enter Try.func94, Try.ntmps94
  go_wp2
  go_loopw [6, 9] (fun _ i wr => ∃ (k : Nat), k ≤ xs.length ∧ i = .int .i64 k ∧ Hid (srcM xs a = srcM (xs.drop k) a) ∧ Below w.heap.size w wr) (fun _ i _ => xs.length - (intOf i).toNat)
  case atStart => exact ⟨0, by omega, rfl, by show _ = _; simp, Below.refl _ _⟩
  case round =>
    obtain ⟨k, hk, rfl, hm, hb⟩ := hrel
    have hbs := hb.size
    by_cases hlt : k < xs.length
    · obtain ⟨b, off, rfl, hbl, hc1, hc2⟩ := hcell k hlt
      have hd1 := (hb.cell (p := ⟨b, off + k * 2, none⟩) hbl).trans hc1
      have hd2 := (hb.cell (p := ⟨b, off + k * 2 + 1, none⟩) hbl).trans hc2
      have hs := srcM_drop xs a k hlt
      clear hc1 hc2 hcell
      generalize xs[k].1 = x1 at *
      generalize xs[k].2 = x2 at *
      have HS := Lib.hid hs
      clear hs
      go_wp2
      · have h : (x1.toList == a.toList) = true := by assumption
        go_ret
        refine ⟨?_, by (repeat' (first | (with_reducible exact Below.refl _ _) | (with_reducible assumption) | (with_reducible refine Below.alloc ?_ ?_ _) | (with_reducible refine Below.drew ?_) | (with_reducible refine Below.setCell ?_ ?_ _) | (with_reducible exact Nat.le_refl _) | omega | (simp only [World.size_alloc, World.size_setCell, World.size_drew]; omega) | (simp; omega) | (simp; done)))⟩
        rw [beq_str, decide_eq_true_eq] at h
        rw [hm.out, HS.out, if_pos h]; rfl
      · have h : (x1.toList == a.toList) = false := by assumption
        go_roundw
        case rel =>
          refine ⟨k + 1, by omega, by go_num, ?_, by (repeat' (first | (with_reducible exact Below.refl _ _) | (with_reducible assumption) | (with_reducible refine Below.alloc ?_ ?_ _) | (with_reducible refine Below.drew ?_) | (with_reducible refine Below.setCell ?_ ?_ _) | (with_reducible exact Nat.le_refl _) | omega | (simp only [World.size_alloc, World.size_setCell, World.size_drew]; omega) | (simp; omega) | (simp; done)))⟩
          show _ = _
          rw [beq_str, decide_eq_false_iff_not] at h
          rw [hm.out, HS.out, if_neg h]
        case measure => simp [intOf]; omega
    · have hs : srcM (xs.drop k) a = a := by rw [List.drop_eq_nil_iff.2 (by omega)]; rfl
      have HS := Lib.hid hs
      clear hs
      go_wp2
      go_ret
      exact ⟨by rw [hm.out, HS.out]; rfl, hb⟩

theorem imSourceOf_c (xs : List Mv) (v : Value) (a : ByteArray) (w : World) (hx : RdM w v xs) :
    Calls Try.prog 18 #[v, .string a] w fun e w' => e = .returned (.tuple #[.string (okS (mvalid xs && isP a) (srcM xs a)), .bool (mvalid xs && isP a)]) ∧ Below w.heap.size w w' := by
  have HO : Hid (∀ b s, okS b s = if b then s else ⟨#[]⟩) := fun _ _ => rfl
  by_cases h1 : MV xs
  · have hm : mvalid xs = true := by simpa [mvalid] using h1
    rcases Bool.eq_false_or_eq_true (isP a) with h2 | h2
    · have HSR := Lib.hid (srcM_place h1 h2)
      have hp := (pidx_spec h2).1
      go_enter Try.func18, Try.ntmps18
      go_wp2_with fail
      refine (tableOf_yes xs h1 v _ hx).mono ?_
      rintro e w1 ⟨rfl, hb1⟩
      have hs1 := hb1.size
      go_wp2_with (first | (go_at_call 53; refine (indexOf_yes a h2 _).mono ?_; rintro e w' ⟨rfl, rfl⟩) | (go_at_call 54; refine (source_c (tabOf xs) (pidx a) hp _).mono ?_; rintro e w2 ⟨rfl, hb2⟩))
      go_ret2
      refine ⟨by rw [hm, h2, HO.out, ← HSR.out]; rfl, ?_⟩
      exact (hb1.alloc hs1 _).trans (hb2.mono (by simp; omega))
    · go_enter Try.func18, Try.ntmps18
      go_wp2_with fail
      refine (tableOf_yes xs h1 v _ hx).mono ?_
      rintro e w1 ⟨rfl, hb1⟩
      have hs1 := hb1.size
      go_wp2_with (go_at_call 53; refine (indexOf_no a h2 _).mono ?_; rintro e w' ⟨rfl, rfl⟩)
      go_ret2
      exact ⟨by rw [hm, h2, HO.out]; rfl, by (repeat' (first | (with_reducible exact Below.refl _ _) | (with_reducible assumption) | (with_reducible refine Below.alloc ?_ ?_ _) | (with_reducible refine Below.drew ?_) | (with_reducible refine Below.setCell ?_ ?_ _) | (with_reducible exact Nat.le_refl _) | omega | (simp only [World.size_alloc, World.size_setCell, World.size_drew]; omega) | (simp; omega) | (simp; done)))⟩
  · have hm : mvalid xs = false := by simpa [mvalid] using h1
    rcases Bool.eq_false_or_eq_true (isP a) with h2 | h2
    all_goals
      go_enter Try.func18, Try.ntmps18
      go_wp2_with fail
      refine (tableOf_no xs h1 v _ hx).mono ?_
      rintro e w1 ⟨rfl, hb1⟩
      have hs1 := hb1.size
      go_wp2_with (first | (go_at_call 53; refine (indexOf_no a h2 _).mono ?_; rintro e w' ⟨rfl, rfl⟩) | (go_at_call 53; refine (indexOf_yes a h2 _).mono ?_; rintro e w' ⟨rfl, rfl⟩))
      go_ret2
      exact ⟨by rw [hm, HO.out]; rfl, by (repeat' (first | (with_reducible exact Below.refl _ _) | (with_reducible assumption) | (with_reducible refine Below.alloc ?_ ?_ _) | (with_reducible refine Below.drew ?_) | (with_reducible refine Below.setCell ?_ ?_ _) | (with_reducible exact Nat.le_refl _) | omega | (simp only [World.size_alloc, World.size_setCell, World.size_drew]; omega) | (simp; omega) | (simp; done)))⟩
end Go.Proofs.Ytiejicffllhglaa
