import Derived.Test.YteadhnpmmpninaaSpotE
namespace Go.Proofs.Yteadhnpmmpninaa
open Go.RowKit Go.PM Go.PW Go.Lib

set_option maxRecDepth 100000 in
set_option maxHeartbeats 1000000 in
theorem wayBack_c (b : Nat) (nx : Nat → Option Nat) (hn : Nice nx) (s : Nat) (hs : s < 19) (w : World) (hS : Spots w b nx) :
    Calls Try.prog 103 #[spotV b (some s)] w fun e w' => e = .returned (.string (txt (way nx s))) ∧ Below w.heap.size w w' := by
  have HZ : Hid (way nx s = wayF nx 20 [] (some s)) := rfl
  have HO := Lib.hid (show ∀ k, orb nx s (k + 1) = (orb nx s k).bind nx from fun _ => rfl)
  have HSN := Lib.hid (fun acc i (h : Acc nx s acc) (hi : orb nx s acc.length = some i) hm => h.snoc hn hs hi hm)
  have HST := Lib.hid (fun n acc i (hm : i ∉ acc) => wayF_step (nx := nx) (n := n) hm)
  have HHT := Lib.hid (fun n acc i (hm : i ∈ acc) => wayF_hit (nx := nx) (n := n) hm)
  have HNO := Lib.hid (fun n acc => wayF_none (nx := nx) (n := n) (acc := acc))
  have HL := Lib.hid (fun k i (h : orb nx s k = some i) => orb_lt hn hs k i h)
  have HAN := Lib.hid (Acc.nil (nx := nx) s)
  have HORB0 : Hid (orb nx s 0 = some s) := rfl
  have hbl := hS.lt
  have hcon : ∀ (t : ByteArray) c (W : World), Calls Try.prog 102 #[.string t, .string ⟨#[c]⟩] W fun e w' => e = .returned (.bool (decide (c ∈ t.data.toList))) ∧ W = w' := fun t c W =>
    (Try.strings_Contains_one t c W).mono fun _ _ ⟨e1, e2⟩ => ⟨by
      rw [e1]; congr 2; simp only [indexByte_mem], e2.symm⟩
  have HC := Lib.hid hcon
  clear hcon hn
  change Calls Try.prog _ #[.pointer (some ⟨b, s * 2, none⟩)] w _
  go_enter Try.func103, Try.ntmps103
  go_wp2
  go_loopw [3, 4] (fun o x wr => ∃ (acc : List Nat) (n : Nat) (c : Option Nat), o = .string (txt acc) ∧ x = spotV b c ∧ acc.length + n = 20 ∧ Hid (Acc nx s acc ∧ orb nx s acc.length = c ∧ way nx s = wayF nx n acc c) ∧ Below w.heap.size w wr) (fun o _ _ => 20 - strLen o)
  case atStart => exact ⟨[], 20, some s, rfl, rfl, rfl, ⟨HAN.out, HORB0.out, HZ.out⟩, Below.refl _ _⟩
  case round =>
    obtain ⟨acc, n, c, rfl, rfl, hn20, hA, hb⟩ := hrel
    have hbs := hb.size
    have hS2 := hS.below hb
    have hal := hA.out.1.len
    have hz := txt_size acc
    cases c with
    | none =>
      have HF : Hid (way nx s = acc) := by show _ = _; rw [hA.out.2.2]; exact HNO.out n acc
      rw [show spotV b none = .pointer none from rfl]
      clear hA
      go_wp2
      go_ret
      exact ⟨by rw [HF.out]; rfl, hb⟩
    | some i =>
      have hil := HL.out _ _ hA.out.2.1
      have hcn := hS2.name i hil
      have hcs := hS2.src i hil
      have hone : sn i = ⟨#[ch i]⟩ := rfl
      rw [hone] at hcn
      have HM := Lib.hid (txt_mem hA.out.1.lt hil)
      have HTS := Lib.hid (txt_snoc acc i)
      have hcc := fun W => HC.out (txt acc) (ch i) W
      have HONE := Lib.hid hone
      clear hone
      rw [show spotV b (some i) = .pointer (some ⟨b, i * 2, none⟩) from rfl]
      have hc1 : (⟨#[ch i]⟩ : ByteArray).size = 1 := rfl
      by_cases hin : i ∈ acc
      · have HF : Hid (way nx s = acc) := by show _ = _; rw [hA.out.2.2]; exact HHT.out n acc i hin
        have hd : decide (ch i ∈ (txt acc).data.toList) = true := by simpa using HM.out.2 hin
        rw [hd] at hcc
        have HCC := Lib.hid hcc
        clear hcc hd hA HM hin
        generalize ch i = c at *
        go_wp2_with (go_at_call 102; refine (HCC.out _).mono ?_; rintro e w' ⟨rfl, rfl⟩)
        go_ret
        exact ⟨by rw [HF.out]; rfl, hb⟩
      · obtain ⟨n', rfl⟩ : ∃ n', n = n' + 1 := ⟨n - 1, by omega⟩
        have hd : decide (ch i ∈ (txt acc).data.toList) = false := by simpa using fun h => hin (HM.out.1 h)
        rw [hd] at hcc
        have HCC := Lib.hid hcc
        have HN : Hid (Acc nx s (acc ++ [i]) ∧ orb nx s (acc ++ [i]).length = nx i ∧ way nx s = wayF nx n' (acc ++ [i]) (nx i)) := by
          refine ⟨HSN.out acc i hA.out.1 hA.out.2.1 hin, ?_, ?_⟩
          · rw [show (acc ++ [i]).length = acc.length + 1 by simp, HO.out, hA.out.2.1]; rfl
          · rw [hA.out.2.2, HST.out _ _ _ hin]
        clear hcc hd hA HM hin
        generalize ch i = c at *
        generalize nx i = ni at *
        go_wp2_with (go_at_call 102; refine (HCC.out _).mono ?_; rintro e w' ⟨rfl, rfl⟩)
        go_roundw
        case rel => exact ⟨acc ++ [i], n', ni, by rw [HTS.out, HONE.out], rfl, by simp; omega, HN, hb⟩
        case measure => simp [strLen, ByteArray.size_append, hc1, hz]; omega
end Go.Proofs.Yteadhnpmmpninaa
