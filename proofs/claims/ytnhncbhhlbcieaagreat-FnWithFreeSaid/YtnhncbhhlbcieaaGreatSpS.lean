import Derived.Test.YtnhncbhhlbcieaaGreatSp1
import Derived.Test.YtnhncbhhlbcieaaGreatM2
import Derived.Test.YtnhncbhhlbcieaaGreatSource
import Derived.BigQuiet
namespace Go.Proofs.YtnhncbhhlbcieaaGreat
open Go.RowKit Go.PM Go.Lib

theorem l2Place_c (s : ByteArray) (w : World) :
    Calls Tryz.prog 57 #[.string s] w fun e w' => e = .returned (.bool (isC s)) ∧ w = w' := by
  by_cases h1 : s.size = 1
  · obtain ⟨c, rfl⟩ := one_of_size h1
    have hm := indexByte_mem cellsL c
    have HI : Hid (isC ⟨#[c]⟩ = decide (0 ≤ indexByte cellsL c)) := by show _ = _; simp [isC, hm]
    clear h1 hm
    go_enter Tryz.func57, Tryz.ntmps57
    go_wp2_with (go_at_call 51; refine (l13Find_c _ c _ (by decide)).mono ?_; rintro e w' ⟨rfl, rfl⟩)
    go_ret
    exact ⟨by rw [HI.out]; rfl, rfl⟩
  · have h2 : ((s.size : Int) == 1) = false := by simp; omega
    have HI : Hid (isC s = false) := by
      show _ = _
      by_cases h : isC s = true
      · exact absurd (isC_size h) h1
      · simpa using h
    clear h1
    go_enter Tryz.func57, Tryz.ntmps57
    go_wp2
    go_ret
    exact ⟨by rw [HI.out]; rfl, rfl⟩
theorem inB_isV (c : UInt8) : isV c = (inB (c.toNat : Int) 48 57 || (inB (c.toNat : Int) 97 122 || inB (c.toNat : Int) 65 90)) := by
  unfold isV inB
  congr 1
  · congr 1; simp; omega
  · congr 1 <;> (congr 1; simp; omega)
end Go.Proofs.YtnhncbhhlbcieaaGreat
