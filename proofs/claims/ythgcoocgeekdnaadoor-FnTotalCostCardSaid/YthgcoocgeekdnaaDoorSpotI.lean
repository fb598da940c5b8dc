import Derived.Test.YthgcoocgeekdnaaDoorWays
import Derived.Test.YthgcoocgeekdnaaDoorSource
import Derived.Test.YthgcoocgeekdnaaDoorHar
import Derived.LaidEqlPtr
namespace Go.PW
open Go.RowKit Go.PM
def spotV (b : Nat) : Option Nat → Value
  | none => .pointer none
  | some j => .pointer (some ⟨b, j * 2, none⟩)
/-- the spots lie in block b -/
structure Spots (w : World) (b : Nat) (nx : Nat → Option Nat) : Prop where
  row : ∃ t cs, At w b t cs
  name : ∀ i, i < 19 → w.cell? ⟨b, i * 2, none⟩ = some (.string (sn i))
  src : ∀ i, i < 19 → w.cell? ⟨b, i * 2 + 1, none⟩ = some (spotV b (nx i))
theorem Spots.lt {w : World} {b : Nat} {nx : Nat → Option Nat} (h : Spots w b nx) : b < w.heap.size := by
  obtain ⟨t, cs, h⟩ := h.row; exact h.lt
theorem Spots.below {w w' : World} {b : Nat} {nx : Nat → Option Nat} (h : Spots w b nx) (hb : Below w.heap.size w w') : Spots w' b nx :=
  ⟨by obtain ⟨t, cs, h⟩ := h.row; exact ⟨t, cs, h.keep hb⟩, fun i hi => (hb.cell (p := ⟨b, i * 2, none⟩) h.lt).trans (h.name i hi), fun i hi => (hb.cell (p := ⟨b, i * 2 + 1, none⟩) h.lt).trans (h.src i hi)⟩
/-- two pointers that walk: r rounds are left at most -/
def Run (ob : Nat → Option Nat) (b K : Nat) (r : Nat) (sl fa : Value) : Prop := ∃ k, k + r = K ∧ 0 < r ∧ sl = spotV b (ob k) ∧ fa = spotV b (ob (2 * k))
theorem Run.next {ob : Nat → Option Nat} {b K k : Nat} {X Y X0 Y0 : Value} (h1 : k + least (fun r => Run ob b K r X0 Y0) = K) (hk : k + 1 < K) (hX : X = spotV b (ob (k + 1))) (hY : Y = spotV b (ob (2 * (k + 1)))) :
    (∃ r, Run ob b K r X Y) ∧ least (fun r => Run ob b K r X Y) < least (fun r => Run ob b K r X0 Y0) := by
  have h : Run ob b K (K - (k + 1)) X Y := ⟨k + 1, by omega, by omega, hX, hY⟩
  refine ⟨⟨_, h⟩, ?_⟩
  have := (least_spec (P := fun r => Run ob b K r X Y) ⟨_, h⟩).2 _ h
  omega
end Go.PW
namespace Go.Proofs.YthgcoocgeekdnaaDoor
open Go.RowKit Go.PM Go.PW Go.Lib

theorem infoSp : (Tryd.prog.info? 120).map (fun i => (i.zero, i.size, i.bytes)) = some (some (.agg #[.string ⟨#[]⟩, .pointer none]), 2, 24) := by kernel_rfl
theorem eqlp_yes (w : World) (a : Addr) : (binOp .eql 118 (.pointer (some a)) (.pointer (some a))).run Tryd.prog w = .ok (.bool true) w := by
  obtain ⟨i0, hi0, hz0, hz1, hz2⟩ := info_parts infoSp
  exact run_eql_ptr_same w a Tryd.underlying118 hi0
theorem eqlp_no (w : World) (b : Nat) (nx : Nat → Option Nat) (hS : Spots w b nx) (i j : Nat) (h : ¬ i = j) : (binOp .eql 118 (.pointer (some ⟨b, i * 2, none⟩)) (.pointer (some ⟨b, j * 2, none⟩))).run Tryd.prog w = .ok (.bool false) w := by
  obtain ⟨i0, hi0, hz0, hz1, hz2⟩ := info_parts infoSp
  obtain ⟨t, cs, hA⟩ := hS.row
  exact run_eql_ptr_other w Tryd.underlying118 hi0 (by rw [hz1]; decide) (by intro e; injection e with _ e; omega) hA hA
theorem neqp_yes (w : World) (a : Addr) : (binOp .neq 118 (.pointer (some a)) (.pointer (some a))).run Tryd.prog w = .ok (.bool false) w := by
  have h := eqlp_yes w a
  simp only [binOp] at h ⊢
  simp only [Sem.run_bind] at h ⊢
  revert h
  cases (Op.equal 118 (.pointer (some a)) (.pointer (some a))).run Tryd.prog w <;> simp [Result.andThen]
theorem neqp_no (w : World) (b : Nat) (nx : Nat → Option Nat) (hS : Spots w b nx) (i j : Nat) (h : ¬ i = j) : (binOp .neq 118 (.pointer (some ⟨b, i * 2, none⟩)) (.pointer (some ⟨b, j * 2, none⟩))).run Tryd.prog w = .ok (.bool true) w := by
  have h := eqlp_no w b nx hS i j h
  simp only [binOp] at h ⊢
  simp only [Sem.run_bind] at h ⊢
  revert h
  cases (Op.equal 118 (.pointer (some ⟨b, i * 2, none⟩)) (.pointer (some ⟨b, j * 2, none⟩))).run Tryd.prog w <;> simp [Result.andThen]

set_option maxRecDepth 100000 in
set_option maxHeartbeats 1000000 in
theorem meeting_c (b : Nat) (nx : Nat → Option Nat) (hn : Nice nx) (s : Nat) (hs : s < 19) (w : World) (hS : Spots w b nx) :
    Calls Tryd.prog 115 #[spotV b (some s)] w fun e w' => (∃ m, e = .returned (spotV b m) ∧ Meet nx s m) ∧ Below w.heap.size w w' := by
  have hmt := (way_rho hn hs).meets
  obtain ⟨K, hK1, hK2, hK3⟩ := hmt
  have HK3 := Lib.hid hK3
  have HL := Lib.hid (fun k i (h : orb nx s k = some i) => orb_lt hn hs k i h)
  have HO := Lib.hid (show ∀ k, orb nx s (k + 1) = (orb nx s k).bind nx from fun _ => rfl)
  have HZ : Hid (orb nx s 0 = some s) := rfl
  have HG := Lib.hid (fun a b (h : orb nx s a = none) (hab : a ≤ b) => orb_none_ge h hab)
  have HM : Hid (∀ m, Meet nx s m ↔ (m = none ∧ ∃ k, orb nx s k = none) ∨ ∃ k, 0 < k ∧ m = orb nx s k ∧ orb nx s k = orb nx s (2 * k)) := fun _ => Iff.rfl
  have hbl := hS.lt
  clear hK3 hn
  generalize orb nx s = ob at *
  change Calls Tryd.prog _ #[.pointer (some ⟨b, s * 2, none⟩)] w _
  go_enter Tryd.func115, Tryd.ntmps115
  go_wp2
  go_loopw [3, 4] (fun sl fa wr => (∃ r, Run ob b K r sl fa) ∧ Below w.heap.size w wr) (fun sl fa _ => least (fun r => Run ob b K r sl fa))
  case atStart => exact ⟨⟨K, 0, by omega, by omega, by rw [HZ.out]; rfl, by rw [HZ.out]; rfl⟩, Below.refl _ _⟩
  case round =>
    obtain ⟨hru, hb⟩ := hrel
    obtain ⟨k, hk0, hk1, e3, e4⟩ := (least_spec hru).1
    clear hru
    have HK0 := Lib.hid hk0
    have hk : k < K := by omega
    clear hk0 hk1
    subst e3 e4
    have hS2 := hS.below hb
    have hbs := hb.size
    cases hfa : ob (2 * k) with
    | none =>
      have HF := Lib.hid hfa
      clear hfa
      rw [show spotV b none = .pointer none from rfl]
      go_wp2
      go_ret
      exact ⟨⟨none, rfl, (HM.out none).2 (.inl ⟨rfl, _, HF.out⟩)⟩, hb⟩
    | some j =>
      have hjl := HL.out _ _ hfa
      have hcj := hS2.src j hjl
      rw [show spotV b (some j) = .pointer (some ⟨b, j * 2, none⟩) from rfl]
      cases hj2 : nx j with
      | none =>
        have HE : Hid (ob (2 * k + 1) = none) := by show _ = _; rw [HO.out, hfa]; exact hj2
        rw [hj2, show spotV b none = .pointer none from rfl] at hcj
        clear hj2 hfa
        go_wp2
        go_ret
        exact ⟨⟨none, rfl, (HM.out none).2 (.inl ⟨rfl, _, HE.out⟩)⟩, hb⟩
      | some j2 =>
        rw [hj2, show spotV b (some j2) = .pointer (some ⟨b, j2 * 2, none⟩) from rfl] at hcj
        have h21 : ob (2 * k + 1) = some j2 := by rw [HO.out, hfa]; exact hj2
        have h22 : ob (2 * (k + 1)) = nx j2 := by rw [show 2 * (k + 1) = 2 * k + 1 + 1 by omega, HO.out, h21]; rfl
        have hl2 := HL.out _ _ h21
        have hc2 := hS2.src j2 hl2
        cases hsl : ob k with
        | none => rw [HG.out _ _ hsl (show k ≤ 2 * k by omega)] at hfa; cases hfa
        | some i =>
          have hil := HL.out _ _ hsl
          have hci := hS2.src i hil
          have h11 : ob (k + 1) = nx i := by rw [HO.out, hsl]; rfl
          rw [show spotV b (some i) = .pointer (some ⟨b, i * 2, none⟩) from rfl]
          have HK1 : Hid (k + least (fun r => Run ob b K r (.pointer (some ⟨b, i * 2, none⟩)) (.pointer (some ⟨b, j * 2, none⟩))) = K) := by
            have h0 := HK0.out
            rw [hsl, hfa] at h0
            exact h0
          have H22 := Lib.hid h22
          have H11 := Lib.hid h11
          clear hj2 hfa h22 h11 hsl h21
          generalize nx j2 = f2 at *
          generalize nx i = s2 at *
          go_wp2
          have cx1 : ∀ x : Ext w.heap.size wr, x.val.cell? ⟨b, i * 2 + 1, none⟩ = some (spotV b s2) := fun x => (x.property.cell (p := ⟨b, i * 2 + 1, none⟩) hbl).trans hci
          have cx2 : ∀ x : Ext w.heap.size wr, x.val.cell? ⟨b, j * 2 + 1, none⟩ = some (.pointer (some ⟨b, j2 * 2, none⟩)) := fun x => (x.property.cell (p := ⟨b, j * 2 + 1, none⟩) hbl).trans hcj
          have cx3 : ∀ x : Ext w.heap.size wr, x.val.cell? ⟨b, j2 * 2 + 1, none⟩ = some (spotV b f2) := fun x => (x.property.cell (p := ⟨b, j2 * 2 + 1, none⟩) hbl).trans hc2
          refine wp_region_ext w.heap.size (by kernel_rfl) (by kernel_rfl) ?_
          repeat (go_big_quiet_step (fail))
          refine wpQuiet_nil ?_
          intro w2 hw'
          obtain ⟨xw, hxw⟩ := hw'
          have hb2 := xw.property
          rw [← hxw] at hb2
          clear hxw xw cx1 cx2 cx3 hcj hc2 hci
          have hbw := hb.trans hb2
          have HEQ : Hid (s2 = f2 → Meet nx s s2) := fun e => (HM.out s2).2 (.inr ⟨k + 1, by omega, H11.out.symm, by rw [H11.out, H22.out, e]⟩)
          have HNE : Hid (s2 ≠ f2 → k + 1 < K) := by
            intro e
            rcases Nat.lt_or_ge (k + 1) K with h1 | h1
            · exact h1
            · exfalso
              have : k + 1 = K := by omega
              have h2 := HK3.out
              rw [← this, H11.out, H22.out] at h2
              exact e h2
          have HNX : Hid (s2 = ob (k + 1) ∧ f2 = ob (2 * (k + 1))) := ⟨H11.out.symm, H22.out.symm⟩
          clear H11 H22
          cases s2 with
          | none =>
            cases f2 with
            | none =>
              have HT := Lib.hid (HEQ.out rfl)
              rw [show spotV b none = .pointer none from rfl]
              go_wp2
              go_ret
              exact ⟨⟨none, rfl, HT.out⟩, hbw⟩
            | some j3 =>
              exfalso
              have h1 := HG.out _ _ HNX.out.1.symm (show k + 1 ≤ 2 * (k + 1) by omega)
              rw [← HNX.out.2] at h1; cases h1
          | some i2 =>
            cases f2 with
            | none =>
              have hk2 := HNE.out (by intro h; cases h)
              rw [show spotV b none = .pointer none from rfl, show spotV b (some i2) = .pointer (some ⟨b, i2 * 2, none⟩) from rfl]
              have HFIN := Lib.hid (Run.next (X := .pointer (some ⟨b, i2 * 2, none⟩)) (Y := .pointer none) HK1.out hk2 (by rw [← HNX.out.1]; rfl) (by rw [← HNX.out.2]; rfl))
              go_wp2
              go_roundw
              case rel => exact ⟨HFIN.out.1, hbw⟩
              case measure => exact HFIN.out.2
            | some j3 =>
              rw [show spotV b (some j3) = .pointer (some ⟨b, j3 * 2, none⟩) from rfl, show spotV b (some i2) = .pointer (some ⟨b, i2 * 2, none⟩) from rfl]
              by_cases e : i2 = j3
              · subst e
                have hq := eqlp_yes w2 ⟨b, i2 * 2, none⟩
                have HT := Lib.hid (HEQ.out rfl)
                go_wp2
                go_ret
                exact ⟨⟨some i2, rfl, HT.out⟩, hbw⟩
              · have hk2 := HNE.out (fun h => e (Option.some.inj h))
                have hq := eqlp_no w2 b nx (hS.below hbw) i2 j3 e
                have HFIN := Lib.hid (Run.next (X := .pointer (some ⟨b, i2 * 2, none⟩)) (Y := .pointer (some ⟨b, j3 * 2, none⟩)) HK1.out hk2 (by rw [← HNX.out.1]; rfl) (by rw [← HNX.out.2]; rfl))
                go_wp2
                go_roundw
                case rel => exact ⟨HFIN.out.1, hbw⟩
                case measure => exact HFIN.out.2
end Go.Proofs.YthgcoocgeekdnaaDoor
