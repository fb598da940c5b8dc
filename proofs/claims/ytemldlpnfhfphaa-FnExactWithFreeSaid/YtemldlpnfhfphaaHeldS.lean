import Derived.Test.YtemldlpnfhfphaaMarkS
import Derived.Test.YtemldlpnfhfphaaMark
namespace Go.Proofs.Ytemldlpnfhfphaa
open Go.RowKit Go.PM
set_option maxRecDepth 100000 in
set_option maxHeartbeats 1600000 in
theorem heldStepS_c (n : Nat) (v : Value) (k : Int) (w : World) (hx : RdS w v (smarks n k.toNat)) (hn : n ≤ 1048576) (h1 : 1 ≤ k) (hk : k ≤ 4194304) :
    Calls Try.prog 10 #[v, .int .i64 k] w fun e w' => e = .returned (.int .i64 (k + 3 * (n : Int))) ∧ Below w.heap.size w w' := by
  obtain ⟨A, cap, hv, hnn, hc, hcell⟩ := hx.open
  rw [smarks_length] at hv hnn hc
  subst hv
  go_enter Try.func10, Try.ntmps10
  go_wp2
  go_loopw [1, 5] (fun m i wr => ∃ (j : Nat), j ≤ n ∧ i = .int .i64 j ∧ m = .int .i64 (k + 3 * (j : Int)) ∧ Below w.heap.size w wr) (fun _ i _ => n - (intOf i).toNat)
  case atStart => exact ⟨0, by omega, rfl, by simp, Below.refl _ _⟩
  case round =>
    obtain ⟨j, hj, rfl, rfl, hb⟩ := hrel
    have hbs := hb.size
    by_cases hlt : j < n
    · obtain ⟨b, off, rfl, hbl, hc0, hc1, hc2⟩ := hcell j (by rw [smarks_length]; exact hlt)
      rw [smarks_at] at hc0 hc1 hc2
      have e0 : ((k.toNat + 3 * j : Nat) : Int) = k + 3 * (j : Int) := by omega
      have e1 : (k + 3 * (j : Int) + 1).toNat = k.toNat + 3 * j + 1 := by omega
      have e2 : (k + 3 * (j : Int) + 1 + 1).toNat = k.toNat + 3 * j + 2 := by omega
      simp only at hc0 hc1 hc2
      rw [e0] at hc0
      rw [← e1] at hc1
      rw [← e2] at hc2
      have hd0 : wr.cell? ⟨b, off + j * 3, none⟩ = some (.int .i64 (k + 3 * (j : Int))) := (hb.cell (p := ⟨b, _, none⟩) hbl).trans hc0
      have hx1 : ∀ x : Ext w.heap.size wr, x.val.cell? ⟨b, off + j * 3 + 1, none⟩ = some (.string (mT (k + 3 * (j : Int) + 1).toNat)) := fun x => ((x.property.cell (p := ⟨b, _, none⟩) hbl).trans (hb.cell (p := ⟨b, _, none⟩) hbl)).trans hc1
      clear e0 e1 e2 hcell
      have i0 : (0 : Int) ≤ (j : Int) := by omega
      have i1 : (j : Int) < n := by omega
      go_wp2
      refine wp_region_ext w.heap.size (by kernel_rfl) (by kernel_rfl) ?_
      repeat (go_big_quiet_step ((go_at_call 22; exact ext_call _ hb.size (markText_i _ _ (by omega) (by omega)))))
      refine wpQuiet_nil ?_
      intro w2 hw'
      obtain ⟨xw, hxw⟩ := hw'
      have hb2 := xw.property
      rw [← hxw] at hb2
      clear hxw xw
      have hbw2 := hb.trans hb2
      have hd2 : w2.cell? ⟨b, off + j * 3 + 2, none⟩ = some (.string (mT (k + 3 * (j : Int) + 1 + 1).toNat)) := (hbw2.cell (p := ⟨b, _, none⟩) hbl).trans hc2
      have hx2 : ∀ x : Ext w.heap.size w2, x.val.cell? ⟨b, off + j * 3 + 2, none⟩ = some (.string (mT (k + 3 * (j : Int) + 1 + 1).toNat)) := fun x => (x.property.cell (p := ⟨b, _, none⟩) hbl).trans hd2
      clear hx1 hd2 hb2 hc0 hc1 hc2 hd0
      have hbs2 := hbw2.size
      go_wp2
      refine wp_region_ext w.heap.size (by kernel_rfl) (by kernel_rfl) ?_
      repeat (go_big_quiet_step ((go_at_call 22; exact ext_call _ hbw2.size (markText_i _ _ (by omega) (by omega)))))
      refine wpQuiet_nil ?_
      intro w3 hw'
      obtain ⟨xw, hxw⟩ := hw'
      have hb3 := xw.property
      rw [← hxw] at hb3
      clear hxw xw
      clear hx2
      go_wp2
      go_roundw
      case rel => exact ⟨j + 1, by omega, by go_num, by go_num, hbw2.trans hb3⟩
      case measure => simp [intOf]; omega
    · have HJ : Hid ((j : Int) = n) := by show _ = _; omega
      go_wp2
      go_ret
      exact ⟨by rw [← HJ.out]; rfl, hb⟩
end Go.Proofs.Ytemldlpnfhfphaa
