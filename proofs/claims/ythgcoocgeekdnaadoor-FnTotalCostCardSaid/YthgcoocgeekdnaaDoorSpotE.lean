import Derived.Test.YthgcoocgeekdnaaDoorSpotI
namespace Go.PW
open Go.RowKit Go.PM
/-- two pointers that walk side by side: r rounds are left -/
def Run2 (ob : Nat → Option Nat) (b k D : Nat) (r : Nat) (x y : Value) : Prop := ∃ j, j + r = D ∧ x = spotV b (ob j) ∧ y = spotV b (ob (k + j))
theorem Run2.next {ob : Nat → Option Nat} {b k D j : Nat} {X Y X0 Y0 : Value} (h1 : j + least (fun r => Run2 ob b k D r X0 Y0) = D) (hk : j < D) (hX : X = spotV b (ob (j + 1))) (hY : Y = spotV b (ob (k + (j + 1)))) :
    (∃ r, Run2 ob b k D r X Y) ∧ least (fun r => Run2 ob b k D r X Y) < least (fun r => Run2 ob b k D r X0 Y0) := by
  have h : Run2 ob b k D (D - (j + 1)) X Y := ⟨j + 1, by omega, hX, hY⟩
  refine ⟨⟨_, h⟩, ?_⟩
  have := (least_spec (P := fun r => Run2 ob b k D r X Y) ⟨_, h⟩).2 _ h
  omega
/-- one pointer that walks, and a counter -/
def Run1 (ob : Nat → Option Nat) (b D : Nat) (r : Nat) (x : Value) (n : Value) : Prop := ∃ j : Nat, j + r = D ∧ x = spotV b (ob j) ∧ n = .int .i64 j
end Go.PW
namespace Go.Proofs.YthgcoocgeekdnaaDoor
open Go.RowKit Go.PM Go.PW Go.Lib

set_option maxRecDepth 100000 in
set_option maxHeartbeats 1000000 in
theorem entrance_c (b : Nat) (nx : Nat → Option Nat) (hn : Nice nx) (s : Nat) (hs : s < 19) (w : World) (hS : Spots w b nx) :
    Calls Tryd.prog 99 #[spotV b (some s)] w fun e w' => (∃ m, e = .returned (spotV b m) ∧ Ent nx s m) ∧ Below w.heap.size w w' := by
  have hrho := way_rho hn hs
  have HSec := Lib.hid (fun m (h : Meet nx s m) => hrho.second h)
  obtain ⟨D0, hD0, _⟩ := hrho.stops
  have HEn : Hid (∀ k, orb nx s k = none → Ent nx s none) := fun k hk => ⟨D0, hD0, .inl ⟨rfl, k, hk⟩⟩
  have HEs : Hid (∀ D, Stops nx s D → (∀ i, orb nx s i ≠ none) → Ent nx s (orb nx s D)) := fun D hD h => ⟨D, hD, .inr ⟨rfl, h⟩⟩
  have HL := Lib.hid (fun k i (h : orb nx s k = some i) => orb_lt hn hs k i h)
  have HO := Lib.hid (show ∀ k, orb nx s (k + 1) = (orb nx s k).bind nx from fun _ => rfl)
  have HZ : Hid (orb nx s 0 = some s) := rfl
  have hbl := hS.lt
  have HMT := Lib.hid (meeting_c b nx hn s hs w hS)
  clear hrho hD0 hn
  change Calls Tryd.prog _ #[.pointer (some ⟨b, s * 2, none⟩)] w _
  go_enter Tryd.func99, Tryd.ntmps99
  go_wp2_with fail
  refine HMT.out.mono ?_
  rintro e w1 ⟨⟨m, rfl, hm⟩, hb1⟩
  have hS1 := hS.below hb1
  have hs1 := hb1.size
  rcases HSec.out m hm with ⟨rfl, k, hk⟩ | ⟨k, D, hD, rfl, hne, heq, hall⟩
  · have HF := Lib.hid (HEn.out k hk)
    clear hm hk
    rw [show spotV b none = .pointer none from rfl]
    go_wp2
    refine wp_loop_rounds 1 ?_
    rw [rounds_succ]
    go_wp2
    go_ret
    exact ⟨⟨none, rfl, HF.out⟩, hb1⟩
  · have HF := Lib.hid (HEs.out D hD hall)
    have HNE := Lib.hid hne
    have HEQ := Lib.hid heq
    have HA := Lib.hid hall
    clear hm hD hne heq hall HEn HEs HSec HMT
    generalize orb nx s = ob at *
    go_wp2
    go_loopw [3, 4] (fun x y wr => (∃ r, Run2 ob b k D r x y) ∧ Below w.heap.size w wr) (fun x y _ => least (fun r => Run2 ob b k D r x y))
    case atStart => exact ⟨⟨D, 0, by omega, by rw [HZ.out]; rfl, rfl⟩, hb1⟩
    case round =>
      obtain ⟨hru, hb⟩ := hrel
      obtain ⟨j, hk0, e3, e4⟩ := (least_spec hru).1
      clear hru
      have HK0 := Lib.hid hk0
      have hk : j ≤ D := by omega
      clear hk0
      subst e3 e4
      have hS2 := hS.below hb
      have hbs := hb.size
      cases hx : ob j with
      | none => exact absurd hx (HA.out _)
      | some x =>
        cases hy : ob (k + j) with
        | none => exact absurd hy (HA.out _)
        | some y =>
          rw [show spotV b (some x) = .pointer (some ⟨b, x * 2, none⟩) from rfl, show spotV b (some y) = .pointer (some ⟨b, y * 2, none⟩) from rfl]
          have HK1 : Hid (j + least (fun r => Run2 ob b k D r (.pointer (some ⟨b, x * 2, none⟩)) (.pointer (some ⟨b, y * 2, none⟩))) = D) := by
            have h0 := HK0.out
            rw [hx, hy] at h0
            exact h0
          by_cases hj : j = D
          · have e : x = y := by
              have h := HEQ.out
              rw [← hj, hx, hy] at h
              exact Option.some.inj h
            subst e
            have HR : Hid (ob D = some x) := by show _ = _; rw [← hj]; exact hx
            have hq := neqp_yes wr ⟨b, x * 2, none⟩
            clear hx hy hj HK0 HK1
            go_wp2
            go_ret
            exact ⟨⟨some x, rfl, by rw [← HR.out]; exact HF.out⟩, hb⟩
          · have hjD : j < D := by omega
            have e : ¬ x = y := fun e => HNE.out j hjD (by rw [hx, hy, e])
            have hq := neqp_no wr b nx hS2 x y e
            have hxl := HL.out _ _ hx
            have hyl := HL.out _ _ hy
            have hcx := hS2.src x hxl
            have hcy := hS2.src y hyl
            have h1 : ob (j + 1) = nx x := by rw [HO.out, hx]; rfl
            have h2 : ob (k + (j + 1)) = nx y := by rw [← Nat.add_assoc, HO.out, hy]; rfl
            have HFIN := Lib.hid (Run2.next (X := spotV b (nx x)) (Y := spotV b (nx y)) HK1.out hjD (by rw [h1]) (by rw [h2]))
            clear hx hy h1 h2 HK0 HK1
            generalize nx x = x2 at *
            generalize nx y = y2 at *
            go_wp2
            have cx1 : ∀ x_1 : Ext w.heap.size wr, x_1.val.cell? ⟨b, x * 2 + 1, none⟩ = some (spotV b x2) := fun x_1 => (x_1.property.cell (p := ⟨b, x * 2 + 1, none⟩) hbl).trans hcx
            have cx2 : ∀ x_1 : Ext w.heap.size wr, x_1.val.cell? ⟨b, y * 2 + 1, none⟩ = some (spotV b y2) := fun x_1 => (x_1.property.cell (p := ⟨b, y * 2 + 1, none⟩) hbl).trans hcy
            refine wp_region_ext w.heap.size (by kernel_rfl) (by kernel_rfl) ?_
            repeat (go_big_quiet_step (fail))
            refine wpQuiet_nil ?_
            intro w2 hw'
            obtain ⟨xw, hxw⟩ := hw'
            have hb2 := xw.property
            rw [← hxw] at hb2
            clear hxw xw cx1 cx2 hcx hcy hq
            have hbw := hb.trans hb2
            go_wp2
            go_roundw
            case rel => exact ⟨HFIN.out.1, hbw⟩
            case measure => exact HFIN.out.2
end Go.Proofs.YthgcoocgeekdnaaDoor
