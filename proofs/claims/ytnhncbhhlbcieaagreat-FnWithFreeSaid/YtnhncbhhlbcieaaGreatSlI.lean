import Derived.Test.YtnhncbhhlbcieaaGreatSlP
import Derived.Test.YtnhncbhhlbcieaaGreatHold
namespace Go.Proofs.YtnhncbhhlbcieaaGreat
open Go.RowKit Go.PM Go.PD Go.Lib

theorem isSlot_c (s : ByteArray) (w : World) :
    Calls Tryz.prog 37 #[.string s] w fun e w' => e = .returned (.bool (slB s)) ∧ w = w' := by
  cases hs : slB s with
  | true =>
    obtain ⟨c, rfl⟩ := one_of_size (slB_size hs)
    have hm : c ∈ slotsL := by simpa [slB] using hs
    obtain ⟨i, hi⟩ := Int.eq_ofNat_of_zero_le ((indexByte_mem slotsL c).2 hm)
    have h5 := fun W => positionIn_yes ⟨#[65, 66, 67]⟩ c i hi W
    clear hs hm hi
    go_enter Tryz.func37, Tryz.ntmps37
    go_wp2_with (go_at_call 28; refine (h5 _).mono ?_; rintro e w' ⟨rfl, rfl⟩)
    go_ret
    exact ⟨rfl, rfl⟩
  | false =>
    have h5 := fun W => positionIn_no ⟨#[65, 66, 67]⟩ s (fun c hc hm => by
      subst hc
      have : slB ⟨#[c]⟩ = true := by rw [slB_one]; exact decide_eq_true hm
      rw [hs] at this; cases this) W
    clear hs
    go_enter Tryz.func37, Tryz.ntmps37
    go_wp2_with (go_at_call 28; refine (h5 _).mono ?_; rintro e w' ⟨rfl, rfl⟩)
    go_ret
    exact ⟨rfl, rfl⟩
/-- an operand behind its interface -/
def opV (b : Bool) : Value := .iface (if b then 115 else 116) (.agg #[])
theorem opV_yes : opV true = .iface 115 (.agg #[]) := rfl
theorem opV_no : opV false = .iface 116 (.agg #[]) := rfl
theorem operandOf_c (s : ByteArray) (w : World) :
    Calls Tryz.prog 73 #[.string s] w fun e w' => e = .returned (opV (slB s)) ∧ w = w' := by
  have hc := fun W => isSlot_c s W
  generalize slB s = b at *
  cases b
  all_goals
    go_enter Tryz.func73, Tryz.ntmps73
    go_wp2_with (go_at_call 37; refine (hc _).mono ?_; rintro e w' ⟨rfl, rfl⟩)
    go_ret
    exact ⟨rfl, rfl⟩
set_option maxHeartbeats 800000 in
theorem operands_c (k : Int) (a b : ByteArray) (w : World) :
    Calls Tryz.prog 59 #[.agg #[.int .i64 k, .string a, .string b]] w fun e w' => e = .returned (.tuple #[opV (slB a), opV (slB b)]) ∧ Below w.heap.size w w' := by
  have HC := Lib.hid (fun s W => operandOf_c s W)
  have hA := At.new w 58 #[.int .i64 k, .string a, .string b]
  have hC1 : ∀ x : Ext (w.heap.size + 1) (w.alloc (.cells #[.int .i64 k, .string a, .string b] 58)), x.val.cell? ⟨w.heap.size, 1, none⟩ = some (.string a) := fun x => (x.property.cell (p := ⟨w.heap.size, 1, none⟩) (by simp)).trans (hA.cell 1)
  have hC2 : ∀ x : Ext (w.heap.size + 1) (w.alloc (.cells #[.int .i64 k, .string a, .string b] 58)), x.val.cell? ⟨w.heap.size, 2, none⟩ = some (.string b) := fun x => (x.property.cell (p := ⟨w.heap.size, 2, none⟩) (by simp)).trans (hA.cell 2)
  clear hA
  go_enter Tryz.func59, Tryz.ntmps59
  go_wp2
  refine wp_region_ext (w.heap.size + 1) (by kernel_rfl) (by kernel_rfl) ?_
  repeat (go_big_quiet_step ((go_at_call 73; exact ext_same _ (HC.out _ _))))
  refine wpQuiet_nil ?_
  intro w2 hw'
  obtain ⟨xw, hxw⟩ := hw'
  have hb2 := xw.property
  rw [← hxw] at hb2
  clear hxw xw
  have hB : Below w.heap.size w w2 := ((Below.refl _ _).alloc (Nat.le_refl _) _).trans (hb2.mono (by omega))
  go_wp2
  go_ret2
  exact ⟨rfl, hB⟩
theorem slotSlots_c (w : World) : Calls Tryz.prog 117 #[.agg #[]] w fun e w' => e = .returned (.int .i64 1) ∧ Below w.heap.size w w' := by
  go_enter Tryz.func117, Tryz.ntmps117
  go_wp2
  go_ret
  exact ⟨rfl, by (repeat' (first | (with_reducible exact Below.refl _ _) | (with_reducible assumption) | (with_reducible refine Below.alloc ?_ ?_ _) | (with_reducible refine Below.drew ?_) | (with_reducible refine Below.setCell ?_ ?_ _) | (with_reducible exact Nat.le_refl _) | omega | ((repeat (first | rewrite [World.size_alloc] | rewrite [World.size_setCell] | rewrite [World.size_drew])); omega) | (simp; omega) | (simp; done)))⟩
theorem regSlots_c (w : World) : Calls Tryz.prog 119 #[.agg #[]] w fun e w' => e = .returned (.int .i64 0) ∧ Below w.heap.size w w' := by
  go_enter Tryz.func119, Tryz.ntmps119
  go_wp2
  go_ret
  exact ⟨rfl, by (repeat' (first | (with_reducible exact Below.refl _ _) | (with_reducible assumption) | (with_reducible refine Below.alloc ?_ ?_ _) | (with_reducible refine Below.drew ?_) | (with_reducible refine Below.setCell ?_ ?_ _) | (with_reducible exact Nat.le_refl _) | omega | ((repeat (first | rewrite [World.size_alloc] | rewrite [World.size_setCell] | rewrite [World.size_drew])); omega) | (simp; omega) | (simp; done)))⟩
end Go.Proofs.YtnhncbhhlbcieaaGreat
