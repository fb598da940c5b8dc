import Derived.Test.YtnhncbhhlbcieaaSlI2
namespace Go.PD
open Go.PM Go.RowKit
def trZ (f : St → Nat) (xs : List St) : Int := if svalid xs then ((trS f xs : Nat) : Int) else 0
theorem trS_zero (f : St → Nat) (xs : List St) : trS f (xs.take 0) = 0 := by simp [trS]
end Go.PD
namespace Go.Proofs.Ytnhncbhhlbcieaa
open Go.RowKit Go.PM Go.PD Go.Lib

set_option maxRecDepth 100000 in
set_option maxHeartbeats 1600000 in
theorem stepNames_c (xs : List St) (hv : svalid xs = true) (v : Value) (w : World) (hx : RdS w v xs) :
    Calls Try.prog 31 #[v] w fun e w' => e = .returned (.string (snT xs)) ∧ Below w.heap.size w w' := by
  obtain ⟨A, cap, rfl, hn, hc, hcell⟩ := hx.open
  have HSZ := Lib.hid (fun k => snT_size hv k)
  have HST := Lib.hid (fun k hk => snT_step xs k hk)
  have HOK := Lib.hid (fun k hk => ok_sizes (svalid_at hv k hk))
  have HF := Lib.hid (snT_full xs)
  have H0 : Hid (snT (xs.take 0) = ⟨#[]⟩) := rfl
  have hlen := svalid_len hv
  clear hv
  go_enter Try.func31, Try.ntmps31
  go_wp2
  go_loopw [3, 5, 8] (fun o _ i wr => ∃ (k : Nat), k ≤ xs.length ∧ i = .int .i64 k ∧ o = .string (snT (xs.take k)) ∧ Below w.heap.size w wr) (fun _ _ i _ => xs.length - (RowKit.intOf i).toNat)
  case atStart => exact ⟨0, by omega, rfl, by rw [H0.out], Below.refl _ _⟩
  case round =>
    obtain ⟨k, hk, rfl, rfl, hb⟩ := hrel
    have hbs := hb.size
    by_cases hlt : k < xs.length
    · obtain ⟨b, off, rfl, hbl, hc1, hc2, hc3⟩ := hcell k hlt
      have hd1 := (hb.cell (p := ⟨b, off + k * 3, none⟩) hbl).trans hc1
      have hd2 := (hb.cell (p := ⟨b, off + k * 3 + 1, none⟩) hbl).trans hc2
      have hd3 := (hb.cell (p := ⟨b, off + k * 3 + 2, none⟩) hbl).trans hc3
      clear hc1 hc2 hc3 hcell
      have hsz := HSZ.out k
      have hok := HOK.out k hlt
      have hst : snT (xs.take k) ++ (xs[k].2.1 ++ xs[k].2.2) = snT (xs.take (k + 1)) := HST.out k hlt
      generalize xs[k].1 = x1 at *
      generalize xs[k].2.1 = x2 at *
      generalize xs[k].2.2 = x3 at *
      obtain ⟨z1, z2⟩ := hok
      have hz3 : (x2 ++ x3).size = 2 := by rw [ByteArray.size_append]; omega
      have HST2 := Lib.hid hst
      clear hst
      generalize snT (xs.take k) = tk at *
      go_wp2
      go_roundw
      case rel => exact ⟨k + 1, by omega, by go_num, by rw [← HST2.out], hb.alloc hbs _⟩
      case measure => simp [RowKit.intOf]; omega
    · have hk' : k = xs.length := by omega
      subst hk'
      go_wp2
      go_ret
      exact ⟨by rw [← HF.out]; rfl, hb⟩
end Go.Proofs.Ytnhncbhhlbcieaa
