import Derived.Test.YtcpibkffeenehaaDoorRows
import Derived.Test.YtcpibkffeenehaaDoorLib
namespace Go.Proofs.YtcpibkffeenehaaDoor
open Go.RowKit Go.PM

theorem infoMv : (Tryd.prog.info? 60).map (fun i => (i.zero, i.size, i.bytes)) = some (some (.agg #[.string ⟨#[]⟩, .string ⟨#[]⟩]), 2, 32) := by kernel_rfl

theorem eqMove_c (a b c d : ByteArray) (w : World) :
    Calls Tryd.prog 75 #[.agg #[.string a, .string b], .agg #[.string c, .string d]] w fun e w' => e = .returned (.bool (mvEq a b c d)) ∧ Below w.heap.size w w' := by
  go_enter Tryd.func75, Tryd.ntmps75
  go_wp2
  all_goals
    go_ret
    simp only [bne_str, decide_eq_true_eq, decide_eq_false_iff_not, Classical.not_not] at *
    refine ⟨by simp [mvEq, *], by (repeat' (first | (with_reducible exact Below.refl _ _) | (with_reducible assumption) | (with_reducible refine Below.alloc ?_ ?_ _) | (with_reducible refine Below.drew ?_) | (with_reducible refine Below.setCell ?_ ?_ _) | (with_reducible exact Nat.le_refl _) | omega | ((repeat (first | rewrite [World.size_alloc] | rewrite [World.size_setCell] | rewrite [World.size_drew])); omega) | (simp; omega) | (simp; done)))⟩
set_option maxRecDepth 100000 in
set_option maxHeartbeats 400000 in
theorem eqMoveS_c (xs ys : List Mv) (v u : Value) (w : World) (hx : RdM w v xs) (hy : RdM w u ys) :
    Calls Tryd.prog 39 #[v, u] w fun e w' => e = .returned (.bool (decide (xs = ys))) ∧ Below w.heap.size w w' := by
  obtain ⟨A, cap, rfl, hn, hc, hcell⟩ := hx.open
  obtain ⟨A', cap', rfl, hn', hc', hcell'⟩ := hy.open
  by_cases hl : xs.length = ys.length
  · have hl1 : ((xs.length : Int) == ys.length) = true := by simp [hl]
    have hl2 := Lib.hid hl
    clear hl
    go_enter Tryd.func39, Tryd.ntmps39
    go_wp2
    go_loopw [5] (fun i wr => ∃ (k : Nat), k ≤ xs.length ∧ i = .int .i64 k ∧ Hid (xs.take k = ys.take k) ∧ Below w.heap.size w wr) (fun i _ => xs.length - (intOf i).toNat)
    case atStart => exact ⟨0, by omega, rfl, by show _ = _; simp, Below.refl _ _⟩
    case round =>
      obtain ⟨k, hk, rfl, ht, hb⟩ := hrel
      by_cases hlt : k < xs.length
      · obtain ⟨b, off, rfl, hbl, hc1, hc2⟩ := hcell k hlt
        obtain ⟨b', off', rfl, hbl', hc1', hc2'⟩ := hcell' k (by have := hl2.out; omega)
        have hd1 := (hb.cell (p := ⟨b, off + k * 2, none⟩) hbl).trans hc1
        have hd2 := (hb.cell (p := ⟨b, off + k * 2 + 1, none⟩) hbl).trans hc2
        have hd3 := (hb.cell (p := ⟨b', off' + k * 2, none⟩) hbl').trans hc1'
        have hd4 := (hb.cell (p := ⟨b', off' + k * 2 + 1, none⟩) hbl').trans hc2'
        clear hc1 hc2 hcell hc1' hc2' hcell'
        have hlt2 : k < ys.length := by have := hl2.out; omega
        go_wp2
        have hx1 : ∀ x : Ext w.heap.size wr, x.val.cell? ⟨b, off + k * 2, none⟩ = some (.string xs[k].1) := fun x => (x.property.cell (p := ⟨b, _, none⟩) hbl).trans hd1
        have hx2 : ∀ x : Ext w.heap.size wr, x.val.cell? ⟨b, off + k * 2 + 1, none⟩ = some (.string xs[k].2) := fun x => (x.property.cell (p := ⟨b, _, none⟩) hbl).trans hd2
        have hx3 : ∀ x : Ext w.heap.size wr, x.val.cell? ⟨b', off' + k * 2, none⟩ = some (.string ys[k].1) := fun x => (x.property.cell (p := ⟨b', _, none⟩) hbl').trans hd3
        have hx4 : ∀ x : Ext w.heap.size wr, x.val.cell? ⟨b', off' + k * 2 + 1, none⟩ = some (.string ys[k].2) := fun x => (x.property.cell (p := ⟨b', _, none⟩) hbl').trans hd4
        clear hd1 hd2 hd3 hd4
        have i0 : (0 : Int) ≤ (k : Int) := by omega
        have i1 : (k : Int) < xs.length := by omega
        have i2 : (k : Int) < ys.length := by omega
        refine wp_region_ext w.heap.size (by kernel_rfl) (by kernel_rfl) ?_
        repeat (go_big_quiet_step ((go_at_call 75; exact ext_call _ hb.size (eqMove_c _ _ _ _ _))))
        refine wpQuiet_nil ?_
        intro w2 hw'
        obtain ⟨xw, hxw⟩ := hw'
        have hb2 := xw.property
        rw [← hxw] at hb2
        clear hxw xw
        clear hx1 hx2 hx3 hx4
        go_wp2
        · have h : (!mvEq xs[k].1 xs[k].2 ys[k].1 ys[k].2) = true := by assumption
          go_ret
          refine ⟨?_, hb.trans hb2⟩
          have : ¬ xs = ys := by
            intro e; subst e; simp [mvEq] at h
          simp [this]
        · have h : (!mvEq xs[k].1 xs[k].2 ys[k].1 ys[k].2) = false := by assumption
          go_roundw
          case rel =>
            refine ⟨k + 1, by omega, by go_num, ?_, hb.trans hb2⟩
            show _ = _
            simp [mvEq] at h
            rw [take_snoc xs k hlt, take_snoc ys k hlt2, ht.out, Prod.ext h.1 h.2]
          case measure => simp [intOf]; omega
      · have hk' : k = xs.length := by omega
        have h2 := ht.out
        have h3 := hl2.out
        rw [hk', List.take_of_length_le (Nat.le_refl _), List.take_of_length_le (by omega)] at h2
        have H2 := Lib.hid h2
        clear h2 h3 hk'
        go_wp2
        go_ret
        exact ⟨by simp [H2.out], hb⟩
  · go_enter Tryd.func39, Tryd.ntmps39
    go_wp2
    · go_ret
      exact ⟨by simp; intro h; subst h; simp at hl, Below.refl _ _⟩
end Go.Proofs.YtcpibkffeenehaaDoor
