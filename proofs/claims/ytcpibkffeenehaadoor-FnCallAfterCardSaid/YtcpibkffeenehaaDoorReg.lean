import Derived.Test.YtcpibkffeenehaaDoorSlF
import Derived.Test.YtcpibkffeenehaaDoorNamesIn
namespace Go.Proofs.YtcpibkffeenehaaDoor
open Go.RowKit Go.PM Go.PD Go.Lib
theorem areReg_c (s : ByteArray) (w : World) :
    Calls Tryd.prog 83 #[.string s] w fun e w' => e = .returned (.bool (decide (s.data.toList.Nodup ∧ ∀ c ∈ s.data.toList, c ∈ regsL))) ∧ w = w' := by
  have HPL : Hid (∀ W, Calls Tryd.prog 106 #[.string ⟨#[97, 98, 99, 100, 101, 102]⟩, .string s] W fun e w' => e = .returned (.string (rgB s.data.toList)) ∧ W = w') := fun W => namesIn_c ⟨#[97, 98, 99, 100, 101, 102]⟩ s (by decide) W
  have HD : Hid (decide (s.data.toList.Nodup ∧ ∀ c ∈ s.data.toList, c ∈ regsL) = decide ((rgB s.data.toList).size = s.size)) := by
    show _ = _
    rw [decide_eq_decide, ← rg_full, size_data]
  rw [HD.out]
  generalize rgB s.data.toList = rg at *
  by_cases h1 : rg.size = s.size
  · have t1 : ((rg.size : Int) == (s.size : Int)) = true := by simp [h1]
    rw [decide_eq_true h1]
    clear h1 HD
    go_enter Tryd.func83, Tryd.ntmps83
    go_wp2_with (go_at_call 106; refine (HPL.out _).mono ?_; rintro e w' ⟨rfl, rfl⟩)
    go_ret
    exact ⟨rfl, rfl⟩
  · have t1 : ((rg.size : Int) == (s.size : Int)) = false := by simp; omega
    rw [decide_eq_false h1]
    clear h1 HD
    go_enter Tryd.func83, Tryd.ntmps83
    go_wp2_with (go_at_call 106; refine (HPL.out _).mono ?_; rintro e w' ⟨rfl, rfl⟩)
    go_ret
    exact ⟨rfl, rfl⟩
end Go.Proofs.YtcpibkffeenehaaDoor
