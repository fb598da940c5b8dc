import Derived.Test.YthgcoocgeekdnaaDoorWays
import Derived.Test.YthgcoocgeekdnaaDoorSource
namespace Go.Proofs.YthgcoocgeekdnaaDoor
open Go.RowKit Go.PM Go.PW Go.Lib

set_option maxRecDepth 100000 in
set_option maxHeartbeats 1000000 in
theorem l3Way_c (xs : List Mv) (h1 : MV xs) (v : Value) (s : Nat) (hs : s < 19) (w : World) (hx : RdM w v xs) :
    Calls Tryd.prog 125 #[v, .string (sn s)] w fun e w' => e = .returned (.string (txt (way (nxT (tabOf xs)) s))) ∧ Below w.heap.size w w' := by
  have hf := SV_tab h1
  have HSrc := Lib.hid (fun i (hi : i < 9) => show srcM xs (sn i) = sn (sx (tabOf xs) i) by rw [sn_nm i hi, ← srcM_nm h1 hi, (sx_lt hf hi).2])
  have HLT := Lib.hid (fun i (hi : i < 9) => (sx_lt hf hi).1)
  have HST := Lib.hid (fun acc i n (h : WayI (nxT (tabOf xs)) s acc i n) (hi : ¬ i < 9) => h.stop (nxT_digit hi))
  have HHI := Lib.hid (fun acc i n (h : WayI (nxT (tabOf xs)) s acc i n) hi hm => way_src hf h hi hm)
  have HGO := Lib.hid (fun acc i n (h : WayI (nxT (tabOf xs)) s acc i n) hi hm => way_go hf hs h hi hm)
  have HS := Lib.hid (fun W (hW : RdM W v xs) (a : ByteArray) => l1Source_c xs v a W hW)
  have HX := Lib.hid (fun W (hW : Below w.heap.size w W) => hx.below hW)
  have hst := Lib.hid (WayI.start (nxT (tabOf xs)) hs)
  clear hf
  go_enter Tryd.func125, Tryd.ntmps125
  go_wp2
  go_loopw [1, 5] (fun p o wr => ∃ (acc : List Nat) (i n : Nat), p = .string (sn i) ∧ o = .string (txt acc) ∧ Hid (WayI (nxT (tabOf xs)) s acc i n) ∧ Below w.heap.size w wr) (fun _ o _ => 20 - strLen o)
  case atStart => exact ⟨[s], s, 19, rfl, rfl, hst, Below.refl _ _⟩
  case round =>
    obtain ⟨acc, i, n, rfl, rfl, hw, hb⟩ := hrel
    have hbs := hb.size
    have hil := hw.out.ilt
    have hal := hw.out.toAcc.len
    have hlt := hw.out.lt
    have hz := txt_size acc
    have hp := (ch_all i hil).2.2.1
    by_cases h9 : i < 9
    · have hp1 : isP (sn i) = true := by rw [hp]; simpa using h9
      have hsl := HLT.out i h9
      have hsr := HSrc.out i h9
      have hcall := HS.out wr (HX.out wr hb) (sn i)
      rw [hsr] at hcall
      have HC := Lib.hid hcall
      have HM := Lib.hid (txt_mem hlt hsl)
      have HIt := HHI.out acc i n hw.out h9
      have HGt := HGO.out acc i n hw.out h9
      have HI2 := Lib.hid HIt
      have HG2 := Lib.hid HGt
      have hts := txt_snoc acc (sx (tabOf xs) i)
      have HTS := Lib.hid hts
      clear hcall HIt HGt hts hsr
      generalize sx (tabOf xs) i = j at *
      have hszt : (txt acc).size ≤ 9223372036854775807 := by omega
      have hone : Hid (sn j = ⟨#[ch j]⟩) := rfl
      have HC2 : Hid (Calls Tryd.prog 90 #[v, .string (sn i)] wr fun e w' => e = .returned (.string ⟨#[ch j]⟩) ∧ Below wr.heap.size wr w') := HC.out
      clear HC
      have hpc := fun W => l1Place_c (sn i) W
      rw [hp1] at hpc
      have HP := Lib.hid hpc
      clear hpc hp hp1
      have hc1 : (⟨#[ch j]⟩ : ByteArray).size = 1 := rfl
      generalize ch j = c at *
      have HW := Lib.hid hw
      clear hw
      by_cases hin : (0 : Int) ≤ indexByte (txt acc).data.toList c
      · have HF : Hid (way (nxT (tabOf xs)) s = acc) := HI2.out (HM.out.1 ((indexByte_mem _ _).1 hin))
        go_wp2_with (first | (go_at_call 58; refine (HP.out _).mono ?_; rintro e w' ⟨rfl, rfl⟩) | (go_at_call 90; refine HC2.out.mono ?_; rintro e w2 ⟨rfl, hb2⟩) | (go_at_call 43; refine (l13Find_c (txt acc) c _ hszt).mono ?_; rintro e w' ⟨rfl, rfl⟩))
        go_ret
        exact ⟨by rw [HF.out]; rfl, hb.trans (hb2.mono hbs)⟩
      · obtain ⟨n', hn', hw'⟩ := HG2.out (fun hm => hin ((indexByte_mem _ _).2 (HM.out.2 hm)))
        have HN := Lib.hid hw'
        clear hw' hn'
        go_wp2_with (first | (go_at_call 58; refine (HP.out _).mono ?_; rintro e w' ⟨rfl, rfl⟩) | (go_at_call 90; refine HC2.out.mono ?_; rintro e w2 ⟨rfl, hb2⟩) | (go_at_call 43; refine (l13Find_c (txt acc) c _ hszt).mono ?_; rintro e w' ⟨rfl, rfl⟩))
        go_roundw
        case rel => exact ⟨acc ++ [j], j, n', by rw [hone.out], by rw [HTS.out, hone.out], HN, hb.trans (hb2.mono hbs)⟩
        case measure => simp [strLen, ByteArray.size_append, hc1, hz]; omega
    · have hp1 : isP (sn i) = false := by rw [hp]; simpa using h9
      have hpc := fun W => l1Place_c (sn i) W
      rw [hp1] at hpc
      have HP := Lib.hid hpc
      have HF := Lib.hid (HST.out acc i n hw.out h9)
      clear hpc hp hp1 hw
      go_wp2_with (go_at_call 58; refine (HP.out _).mono ?_; rintro e w' ⟨rfl, rfl⟩)
      go_ret
      exact ⟨by rw [HF.out]; rfl, hb⟩
end Go.Proofs.YthgcoocgeekdnaaDoor
