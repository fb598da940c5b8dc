import Derived.Test.YtogkodjlbdlgjaaSlP
import Derived.Test.YtogkodjlbdlgjaaHold
namespace Go.Proofs.Ytogkodjlbdlgjaa
open Go.RowKit Go.PM Go.PD Go.Lib

theorem isSlot_c (s : ByteArray) (w : World) :
    Calls Try.prog 23 #[.string s] w fun e w' => e = .returned (.bool (slB s)) ∧ w = w' := by
  cases hs : slB s with
  | true =>
    obtain ⟨c, rfl⟩ := one_of_size (slB_size hs)
    have hm : c ∈ slotsL := by simpa [slB] using hs
    obtain ⟨i, hi⟩ := Int.eq_ofNat_of_zero_le ((indexByte_mem slotsL c).2 hm)
    have h5 := fun W => positionIn_yes ⟨#[65, 66, 67]⟩ c i hi W
    clear hs hm hi
    go_enter Try.func23, Try.ntmps23
    go_wp2_with (go_at_call 73; refine (h5 _).mono ?_; rintro e w' ⟨rfl, rfl⟩)
    go_ret
    exact ⟨rfl, rfl⟩
  | false =>
    have h5 := fun W => positionIn_no ⟨#[65, 66, 67]⟩ s (fun c hc hm => by
      subst hc
      have : slB ⟨#[c]⟩ = true := by rw [slB_one]; exact decide_eq_true hm
      rw [hs] at this; cases this) W
    clear hs
    go_enter Try.func23, Try.ntmps23
    go_wp2_with (go_at_call 73; refine (h5 _).mono ?_; rintro e w' ⟨rfl, rfl⟩)
    go_ret
    exact ⟨rfl, rfl⟩
/-- an operand behind its interface -/
def opV (b : Bool) : Value := .iface (if b then 153 else 154) (.agg #[])
theorem opV_yes : opV true = .iface 153 (.agg #[]) := rfl
theorem opV_no : opV false = .iface 154 (.agg #[]) := rfl
theorem operandOf_c (s : ByteArray) (w : World) :
    Calls Try.prog 126 #[.string s] w fun e w' => e = .returned (opV (slB s)) ∧ w = w' := by
  have hc := fun W => isSlot_c s W
  generalize slB s = b at *
  cases b
  all_goals
    go_enter Try.func126, Try.ntmps126
    go_wp2_with (go_at_call 23; refine (hc _).mono ?_; rintro e w' ⟨rfl, rfl⟩)
    go_ret
    exact ⟨rfl, rfl⟩
set_option maxHeartbeats 800000 in
theorem operands_c (k : Int) (a b : ByteArray) (w : World) :
    Calls Try.prog 108 #[.agg #[.int .i64 k, .string a, .string b]] w fun e w' => e = .returned (.tuple #[opV (slB a), opV (slB b)]) ∧ Below w.heap.size w w' := by
  have HC := Lib.hid (fun s W => operandOf_c s W)
  have hA := At.new w 67 #[.int .i64 k, .string a, .string b]
  have hC1 : ∀ x : Ext (w.heap.size + 1) (w.alloc (.cells #[.int .i64 k, .string a, .string b] 67)), x.val.cell? ⟨w.heap.size, 1, none⟩ = some (.string a) := fun x => (x.property.cell (p := ⟨w.heap.size, 1, none⟩) (by simp)).trans (hA.cell 1)
  have hC2 : ∀ x : Ext (w.heap.size + 1) (w.alloc (.cells #[.int .i64 k, .string a, .string b] 67)), x.val.cell? ⟨w.heap.size, 2, none⟩ = some (.string b) := fun x => (x.property.cell (p := ⟨w.heap.size, 2, none⟩) (by simp)).trans (hA.cell 2)
  clear hA
  go_enter Try.func108, Try.ntmps108
  go_wp2
  refine wp_region_ext (w.heap.size + 1) (by kernel_rfl) (by kernel_rfl) ?_
  repeat (go_big_quiet_step ((go_at_call 126; exact ext_same _ (HC.out _ _))))
  refine wpQuiet_nil ?_
  intro w2 hw'
  obtain ⟨xw, hxw⟩ := hw'
  have hb2 := xw.property
  rw [← hxw] at hb2
  clear hxw xw
  have hB : Below w.heap.size w w2 := ((Below.refl _ _).alloc (Nat.le_refl _) _).trans (hb2.mono (by omega))
  go_wp2
  go_ret2
  exact ⟨rfl, hB⟩
theorem slotSlots_c (w : World) : Calls Try.prog 181 #[.agg #[]] w fun e w' => e = .returned (.int .i64 1) ∧ Below w.heap.size w w' := by
  go_enter Try.func181, Try.ntmps181
  go_wp2
  go_ret
  exact ⟨rfl, by (repeat' (first | (with_reducible exact Below.refl _ _) | (with_reducible assumption) | (with_reducible refine Below.alloc ?_ ?_ _) | (with_reducible refine Below.drew ?_) | (with_reducible refine Below.setCell ?_ ?_ _) | (with_reducible exact Nat.le_refl _) | omega | ((repeat (first | rewrite [World.size_alloc] | rewrite [World.size_setCell] | rewrite [World.size_drew])); omega) | (simp; omega) | (simp; done)))⟩
theorem regSlots_c (w : World) : Calls Try.prog 183 #[.agg #[]] w fun e w' => e = .returned (.int .i64 0) ∧ Below w.heap.size w w' := by
  go_enter Try.func183, Try.ntmps183
  go_wp2
  go_ret
  exact ⟨rfl, by (repeat' (first | (with_reducible exact Below.refl _ _) | (with_reducible assumption) | (with_reducible refine Below.alloc ?_ ?_ _) | (with_reducible refine Below.drew ?_) | (with_reducible refine Below.setCell ?_ ?_ _) | (with_reducible exact Nat.le_refl _) | omega | ((repeat (first | rewrite [World.size_alloc] | rewrite [World.size_setCell] | rewrite [World.size_drew])); omega) | (simp; omega) | (simp; done)))⟩
theorem regTakes_c (v : Value) (w : World) : Calls Try.prog 184 #[.agg #[], v] w fun e w' => e = .returned (.bool true) ∧ Below w.heap.size w w' := by
  go_enter Try.func184, Try.ntmps184
  go_wp2
  go_ret
  exact ⟨rfl, by (repeat' (first | (with_reducible exact Below.refl _ _) | (with_reducible assumption) | (with_reducible refine Below.alloc ?_ ?_ _) | (with_reducible refine Below.drew ?_) | (with_reducible refine Below.setCell ?_ ?_ _) | (with_reducible exact Nat.le_refl _) | omega | ((repeat (first | rewrite [World.size_alloc] | rewrite [World.size_setCell] | rewrite [World.size_drew])); omega) | (simp; omega) | (simp; done)))⟩
set_option maxRecDepth 100000 in
theorem slotTakes_c (b : Bool) (w : World) : Calls Try.prog 182 #[.agg #[], opV b] w fun e w' => e = .returned (.bool (!b)) ∧ Below w.heap.size w w' := by
  have HY : ∀ W : World, (Instr.typeAssert (.iface 153 (.agg #[])) 125 153 true).run Try.prog W = .ok (.tuple #[.agg #[], .bool true]) W := fun _ => by kernel_rfl
  have HN : ∀ W : World, (Instr.typeAssert (.iface 154 (.agg #[])) 125 153 true).run Try.prog W = .ok (.tuple #[.agg #[], .bool false]) W := fun _ => by kernel_rfl
  cases b
  all_goals
    first | rw [opV_yes] | rw [opV_no]
    go_enter Try.func182, Try.ntmps182
    go_wp2
    go_ret
    exact ⟨rfl, by (repeat' (first | (with_reducible exact Below.refl _ _) | (with_reducible assumption) | (with_reducible refine Below.alloc ?_ ?_ _) | (with_reducible refine Below.drew ?_) | (with_reducible refine Below.setCell ?_ ?_ _) | (with_reducible exact Nat.le_refl _) | omega | ((repeat (first | rewrite [World.size_alloc] | rewrite [World.size_setCell] | rewrite [World.size_drew])); omega) | (simp; omega) | (simp; done)))⟩
set_option maxRecDepth 100000 in
set_option maxHeartbeats 1600000 in
theorem direct_c (k : Int) (a b : ByteArray) (w : World) :
    Calls Try.prog 65 #[.agg #[.int .i64 k, .string a, .string b]] w fun e w' => e = .returned (.bool (!far (k, a, b))) ∧ Below w.heap.size w w' := by
  have HMS : ∀ (n : Nat) (w : World), (method (n + 1) 153 (.agg #[]) "loop.example/parallelmoves/impl.slots").run Try.prog w = .ok (181, .agg #[]) w := fun _ _ => by kernel_rfl
  have HMR : ∀ (n : Nat) (w : World), (method (n + 1) 154 (.agg #[]) "loop.example/parallelmoves/impl.slots").run Try.prog w = .ok (183, .agg #[]) w := fun _ _ => by kernel_rfl
  have HTS : ∀ (n : Nat) (w : World), (method (n + 1) 153 (.agg #[]) "loop.example/parallelmoves/impl.takes").run Try.prog w = .ok (182, .agg #[]) w := fun _ _ => by kernel_rfl
  have HTR : ∀ (n : Nat) (w : World), (method (n + 1) 154 (.agg #[]) "loop.example/parallelmoves/impl.takes").run Try.prog w = .ok (184, .agg #[]) w := fun _ _ => by kernel_rfl
  have HO := Lib.hid (fun W => operands_c k a b W)
  have hA := At.new w 67 #[.int .i64 k, .string a, .string b]
  have hB0 : Below w.heap.size w (w.alloc (.cells #[.int .i64 k, .string a, .string b] 67)) := (Below.refl _ _).alloc (Nat.le_refl _) _
  have HF1 := Lib.hid (far_swap a b)
  have HF2 := Lib.hid (fun h => far_move k a b h)
  generalize slB a = ba at *
  generalize slB b = bb at *
  by_cases h1 : k = 1
  · subst h1
    cases ba <;> cases bb
    all_goals
      go_enter Try.func65, Try.ntmps65
      go_wp2_with fail
      refine (HO.out _).mono ?_
      rintro e w1 ⟨rfl, hb1⟩
      first | rw [opV_yes] | skip
      first | rw [opV_no] | skip
      have hA1 := hA.keep hb1
      have hB1 := hB0.trans (hb1.mono (by simp))
      have q1 : w1.cell? ⟨w.heap.size, 0, none⟩ = some (.int .i64 1) := hA1.cell 0
      have hs1 := hB1.size
      clear hA hB0 hb1 hA1
      go_wp2_with (first | (go_at_call 181; refine held ?_) | (go_at_call 183; refine held ?_))
      unfold Held
      first | refine (slotSlots_c _).mono ?_ | refine (regSlots_c _).mono ?_
      rintro e w2 ⟨rfl, hb2⟩
      have hB2 := hB1.trans (hb2.mono hs1)
      have hs2 := hB2.size
      clear hb2 hB1 q1
      go_wp2_with (first | (go_at_call 181; refine held ?_) | (go_at_call 183; refine held ?_))
      unfold Held
      first | refine (slotSlots_c _).mono ?_ | refine (regSlots_c _).mono ?_
      rintro e w3 ⟨rfl, hb3⟩
      have hB3 := hB2.trans (hb3.mono hs2)
      clear hb3 hB2
      go_wp2
      go_ret
      exact ⟨by rw [HF1.out]; rfl, hB3⟩
  · have t1 : (k == 1) = false := by simpa using h1
    have HFF := Lib.hid (HF2.out h1)
    clear h1
    cases ba with
    | false =>
      go_enter Try.func65, Try.ntmps65
      go_wp2_with fail
      refine (HO.out _).mono ?_
      rintro e w1 ⟨rfl, hb1⟩
      have hA1 := hA.keep hb1
      have hB1 := hB0.trans (hb1.mono (by simp))
      have q1 : w1.cell? ⟨w.heap.size, 0, none⟩ = some (.int .i64 k) := hA1.cell 0
      have hs1 := hB1.size
      first | rw [opV_yes] | rw [opV_no]
      generalize opV bb = vb at *
      clear hA hB0 hb1 hA1
      go_wp2_with (go_at_call 184; refine held ?_)
      unfold Held
      refine (regTakes_c _ _).mono ?_
      rintro e w2 ⟨rfl, hb2⟩
      have hB2 := hB1.trans (hb2.mono hs1)
      clear hb2 hB1 q1
      go_wp2
      go_ret
      exact ⟨by rw [HFF.out]; rfl, hB2⟩
    | true =>
      go_enter Try.func65, Try.ntmps65
      go_wp2_with fail
      refine (HO.out _).mono ?_
      rintro e w1 ⟨rfl, hb1⟩
      have hA1 := hA.keep hb1
      have hB1 := hB0.trans (hb1.mono (by simp))
      have q1 : w1.cell? ⟨w.heap.size, 0, none⟩ = some (.int .i64 k) := hA1.cell 0
      have hs1 := hB1.size
      first | rw [opV_yes] | rw [opV_no]
      have HTK := Lib.hid (fun W => slotTakes_c bb W)
      generalize opV bb = vb at *
      clear hA hB0 hb1 hA1
      go_wp2_with (go_at_call 182; refine held ?_)
      unfold Held
      refine (HTK.out _).mono ?_
      rintro e w2 ⟨rfl, hb2⟩
      have hB2 := hB1.trans (hb2.mono hs1)
      clear hb2 hB1 q1
      go_wp2
      go_ret
      exact ⟨by rw [HFF.out]; rfl, hB2⟩
end Go.Proofs.Ytogkodjlbdlgjaa
