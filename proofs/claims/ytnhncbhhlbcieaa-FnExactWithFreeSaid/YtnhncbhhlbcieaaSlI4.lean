import Derived.Test.YtnhncbhhlbcieaaSlI3
import Derived.Test.YtnhncbhhlbcieaaSlF
import Derived.Test.YtnhncbhhlbcieaaReg
namespace Go.Proofs.Ytnhncbhhlbcieaa
open Go.RowKit Go.PM Go.PD Go.Lib

set_option maxHeartbeats 800000 in
theorem areFree_c (free : ByteArray) (xs : List St) (hv : svalid xs = true) (v : Value) (w : World) (hx : RdS w v xs) (hf : free.size ≤ 1048576) :
    Calls Try.prog 17 #[.string free, v] w fun e w' => e = .returned (.bool (arF xs free.data.toList)) ∧ Below w.heap.size w w' := by
  have hfl : free.data.toList.length = free.size := size_data free
  have HPL := Lib.hid (fun W => areReg_c free W)
  have HSN := Lib.hid (stepNames_c xs hv v w hx)
  have hlen := svalid_len hv
  have hns := snT_size hv xs.length
  rw [snT_full] at hns
  have hrg : (free.data.toList.Nodup ∧ ∀ c ∈ free.data.toList, c ∈ regsL) ↔ (rgB free.data.toList).size = free.size := by rw [← rg_full, hfl]
  by_cases h1 : (rgB free.data.toList).size = free.size
  · rw [decide_eq_true (hrg.2 h1)] at HPL
    by_cases h2 : free.size ≤ 2
    · have HY := Lib.hid (ar_yes (xs := xs) (free := free.data.toList) (by rw [h1, hfl]) (by omega))
      have HCA := Lib.hid (fun W => Try.strings_ContainsAny_laid (snT xs) free W (by omega) (by omega) (fun j b hb => nm_ascii hv b (by rw [← snT_list]; exact List.mem_of_getElem? hb)) (fun j b hb => free_ascii (by rw [h1, hfl]) b (List.mem_of_getElem? hb)))
      have t2 : (free.size : Int) ≤ 2 := by omega
      rw [snT_list] at HCA
      clear hv hfl h1 h2 hrg
      generalize snT xs = nt at *
      go_enter Try.func17, Try.ntmps17
      go_wp2_with (first | (go_at_call 29; refine (HPL.out _).mono ?_; rintro e w' ⟨rfl, rfl⟩) | (go_at_call 31; refine HSN.out.mono ?_; rintro e w2 ⟨rfl, hb2⟩) | (go_at_call 30; refine (HCA.out _).mono ?_; rintro e w3 ⟨rfl, hb3⟩))
      go_ret
      exact ⟨by rw [HY.out]; rfl, hb2.trans (hb3.mono hb2.size)⟩
    · have HN := Lib.hid (ar_no2 (xs := xs) (free := free.data.toList) (by omega))
      have t2 : ¬ (free.size : Int) ≤ 2 := by omega
      clear hv hfl h1 h2 hrg
      go_enter Try.func17, Try.ntmps17
      go_wp2_with (first | (go_at_call 29; refine (HPL.out _).mono ?_; rintro e w' ⟨rfl, rfl⟩))
      go_ret
      exact ⟨by rw [HN.out]; rfl, Below.refl _ _⟩
  · rw [decide_eq_false (fun h => h1 (hrg.1 h))] at HPL
    have HN := Lib.hid (ar_no1 (xs := xs) (free := free.data.toList) (by rw [hfl]; exact h1))
    clear hv hfl h1 hrg
    go_enter Try.func17, Try.ntmps17
    go_wp2_with (first | (go_at_call 29; refine (HPL.out _).mono ?_; rintro e w' ⟨rfl, rfl⟩))
    go_ret
    exact ⟨by rw [HN.out]; rfl, Below.refl _ _⟩
end Go.Proofs.Ytnhncbhhlbcieaa
