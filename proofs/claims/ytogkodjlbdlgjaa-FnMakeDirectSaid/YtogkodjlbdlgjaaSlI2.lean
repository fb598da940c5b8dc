import Derived.Test.YtogkodjlbdlgjaaSlI
namespace Go.PD
open Go.PM Go.RowKit
def bN (b : Bool) : Nat := if b then 1 else 0
theorem slN_b (s : ByteArray) : slN s = bN (slB s) := rfl
end Go.PD
namespace Go.Proofs.Ytogkodjlbdlgjaa
open Go.RowKit Go.PM Go.PD Go.Lib

set_option maxRecDepth 100000 in
set_option maxHeartbeats 1600000 in
theorem traffic_c (k : Int) (a b : ByteArray) (w : World) :
    Calls Try.prog 83 #[.agg #[.int .i64 k, .string a, .string b]] w fun e w' => e = .returned (.tuple #[.int .i64 (trR (k, a, b)), .int .i64 (trW (k, a, b))]) ∧ Below w.heap.size w w' := by
  have HMS : ∀ (n : Nat) (w : World), (method (n + 1) 153 (.agg #[]) "loop.example/parallelmoves/impl.slots").run Try.prog w = .ok (181, .agg #[]) w := fun _ _ => by kernel_rfl
  have HMR : ∀ (n : Nat) (w : World), (method (n + 1) 154 (.agg #[]) "loop.example/parallelmoves/impl.slots").run Try.prog w = .ok (183, .agg #[]) w := fun _ _ => by kernel_rfl
  have HO := Lib.hid (fun W => operands_c k a b W)
  have hA := At.new w 67 #[.int .i64 k, .string a, .string b]
  have hB0 : Below w.heap.size w (w.alloc (.cells #[.int .i64 k, .string a, .string b] 67)) := (Below.refl _ _).alloc (Nat.le_refl _) _
  by_cases h1 : k = 1
  · subst h1
    have HF1 := Lib.hid (trR_swap a b)
    have HF2 := Lib.hid (trW_swap a b)
    rw [slN_b, slN_b] at HF1 HF2
    generalize slB a = ba at *
    generalize slB b = bb at *
    cases ba <;> cases bb
    all_goals
      go_enter Try.func83, Try.ntmps83
      go_wp2_with fail
      refine (HO.out _).mono ?_
      rintro e w1 ⟨rfl, hb1⟩
      first | rw [opV_yes] | skip
      first | rw [opV_no] | skip
      have hA1 := hA.keep hb1
      have hB1 := hB0.trans (hb1.mono (by simp))
      have q1 : w1.cell? ⟨w.heap.size, 0, none⟩ = some (.int .i64 1) := hA1.cell 0
      have hs1 := hB1.size
      clear hA hB0 hb1 hA1
      go_wp2_with (first | (go_at_call 181; refine held ?_) | (go_at_call 183; refine held ?_))
      unfold Held
      first | refine (slotSlots_c _).mono ?_ | refine (regSlots_c _).mono ?_
      rintro e w2 ⟨rfl, hb2⟩
      have hB2 := hB1.trans (hb2.mono hs1)
      have hs2 := hB2.size
      clear hb2 hB1 q1
      go_wp2_with (first | (go_at_call 181; refine held ?_) | (go_at_call 183; refine held ?_))
      unfold Held
      first | refine (slotSlots_c _).mono ?_ | refine (regSlots_c _).mono ?_
      rintro e w3 ⟨rfl, hb3⟩
      have hB3 := hB2.trans (hb3.mono hs2)
      clear hb3 hB2
      go_wp2
      go_ret2
      exact ⟨by rw [HF1.out, HF2.out]; rfl, hB3⟩
  · have t1 : (k == 1) = false := by simpa using h1
    have HF1 := Lib.hid (trR_move k a b h1)
    have HF2 := Lib.hid (trW_move k a b h1)
    rw [slN_b] at HF1 HF2
    clear h1
    generalize slB a = ba at *
    generalize slB b = bb at *
    cases ba <;> cases bb
    all_goals
      go_enter Try.func83, Try.ntmps83
      go_wp2_with fail
      refine (HO.out _).mono ?_
      rintro e w1 ⟨rfl, hb1⟩
      first | rw [opV_yes] | skip
      first | rw [opV_no] | skip
      have hA1 := hA.keep hb1
      have hB1 := hB0.trans (hb1.mono (by simp))
      have q1 : w1.cell? ⟨w.heap.size, 0, none⟩ = some (.int .i64 k) := hA1.cell 0
      have hs1 := hB1.size
      clear hA hB0 hb1 hA1
      go_wp2_with (first | (go_at_call 181; refine held ?_) | (go_at_call 183; refine held ?_))
      unfold Held
      first | refine (slotSlots_c _).mono ?_ | refine (regSlots_c _).mono ?_
      rintro e w2 ⟨rfl, hb2⟩
      have hB2 := hB1.trans (hb2.mono hs1)
      have hs2 := hB2.size
      clear hb2 hB1 q1
      go_wp2_with (first | (go_at_call 181; refine held ?_) | (go_at_call 183; refine held ?_))
      unfold Held
      first | refine (slotSlots_c _).mono ?_ | refine (regSlots_c _).mono ?_
      rintro e w3 ⟨rfl, hb3⟩
      have hB3 := hB2.trans (hb3.mono hs2)
      clear hb3 hB2
      go_wp2
      go_ret2
      exact ⟨by rw [HF1.out, HF2.out]; rfl, hB3⟩
set_option maxHeartbeats 800000 in
theorem swapsSlot_c (k : Int) (a b : ByteArray) (w : World) :
    Calls Try.prog 59 #[.agg #[.int .i64 k, .string a, .string b]] w fun e w' => e = .returned (.bool (swF (k, a, b))) ∧ Below w.heap.size w w' := by
  have HD := Lib.hid (fun W => direct_c k a b W)
  have hB0 : Below w.heap.size w (w.alloc (.cells #[.int .i64 k, .string a, .string b] 67)) := (Below.refl _ _).alloc (Nat.le_refl _) _
  have hs0 := hB0.size
  by_cases h1 : k = 1
  · subst h1
    have HF : Hid (swF (1, a, b) = far (1, a, b)) := by show _ = _; simp [swF]
    generalize far (1, a, b) = f at *
    cases f
    all_goals
      go_enter Try.func59, Try.ntmps59
      go_wp2_with (go_at_call 65; refine (HD.out _).mono ?_; rintro e w1 ⟨rfl, hb1⟩)
      go_ret
      exact ⟨by rw [HF.out]; rfl, hB0.trans (hb1.mono (by simp))⟩
  · have t1 : (k == 1) = false := by simpa using h1
    have HF : Hid (swF (k, a, b) = false) := by show _ = _; simp [swF, h1]
    clear h1
    go_enter Try.func59, Try.ntmps59
    go_wp2
    go_ret
    exact ⟨by rw [HF.out]; rfl, hB0⟩
set_option maxHeartbeats 800000 in
theorem slotAdd_c (b : Nat) (r q x y : Int) (w : World) (hA : At w b 98 #[.int .i64 r, .int .i64 q]) (h1 : 0 ≤ r ∧ r ≤ 1000000) (h2 : 0 ≤ q ∧ q ≤ 1000000) (h3 : 0 ≤ x ∧ x ≤ 10) (h4 : 0 ≤ y ∧ y ≤ 10) :
    Calls Try.prog 82 #[.pointer (some ⟨b, 0, none⟩), .int .i64 x, .int .i64 y] w fun e w' => (∃ v, e = .returned v) ∧ At w' b 98 #[.int .i64 (r + x), .int .i64 (q + y)] ∧ w.grownBy w' (some b) := by
  have c0 : w.cell? ⟨b, 0, none⟩ = some (.int .i64 r) := hA.cell 0
  have f0 := hA.frozen 0
  have A1 := hA.set 0 (.int .i64 (r + x))
  have c1 : (w.setCell ⟨b, 0, none⟩ (.int .i64 (r + x))).cell? ⟨b, 1, none⟩ = some (.int .i64 q) := A1.cell 1
  have f1 := A1.frozen 1
  have A2 := A1.set 1 (.int .i64 (q + y))
  have g1 : w.grownBy (w.setCell ⟨b, 0, none⟩ (.int .i64 (r + x))) (some b) := ⟨rfl, rfl, rfl, by simp [World.size_setCell], fun k _ hne => heap_setCell_other _ _ _ _ (fun e => hne (by rw [e]))⟩
  have g2 := grown_trans g1 (show World.grownBy _ ((w.setCell ⟨b, 0, none⟩ (.int .i64 (r + x))).setCell ⟨b, 1, none⟩ (.int .i64 (q + y))) (some b) from ⟨rfl, rfl, rfl, by simp [World.size_setCell], fun k _ hne => heap_setCell_other _ _ _ _ (fun e => hne (by rw [e]))⟩)
  clear hA A1 g1
  go_enter Try.func82, Try.ntmps82
  go_wp2
  go_end0
  exact ⟨⟨_, rfl⟩, A2, g2⟩
end Go.Proofs.Ytogkodjlbdlgjaa
