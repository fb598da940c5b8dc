import Derived.Test.YtcpibkffeenehaaDoorIm2
import Derived.Test.YtcpibkffeenehaaDoorP2
import Derived.Test.YtcpibkffeenehaaDoorRow
namespace Go.Proofs.YtcpibkffeenehaaDoor
open Go.RowKit Go.PM Go.Lib

theorem cellOf_yes (s : ByteArray) (h : isC s = true) (w : World) :
    Calls Tryd.prog 107 #[.string s] w fun e w' => e = .returned (.tuple #[.int .i64 (cidx s), .bool true]) ∧ w = w' := by
  obtain ⟨c, rfl⟩ := one_of_size (isC_size h)
  have h2 : c ∈ cellsL := by simpa [isC] using h
  have h4 : indexByte cellsL c = (cidx ⟨#[c]⟩ : Nat) := (cidx_one h2).1
  have h5 := fun W => positionIn_yes ⟨#[97, 98, 99, 100, 101, 102, 65, 66, 67, 116, 117]⟩ c _ h4 W
  clear h h2 h4
  generalize cidx ⟨#[c]⟩ = i at *
  go_enter Tryd.func107, Tryd.ntmps107
  go_wp2_with (go_at_call 109; refine (h5 _).mono ?_; rintro e w' ⟨rfl, rfl⟩)
  go_ret2
  exact ⟨rfl, rfl⟩
theorem cellOf_no (s : ByteArray) (h : isC s = false) (w : World) :
    Calls Tryd.prog 107 #[.string s] w fun e w' => e = .returned (.tuple #[.int .i64 0, .bool false]) ∧ w = w' := by
  have h5 := fun W => positionIn_no ⟨#[97, 98, 99, 100, 101, 102, 65, 66, 67, 116, 117]⟩ s (fun c hc hm => by
    rw [hc] at h
    have : isC ⟨#[c]⟩ = true := by simpa [isC, cellsL] using hm
    rw [this] at h; cases h) W
  clear h
  go_enter Tryd.func107, Tryd.ntmps107
  go_wp2_with (go_at_call 109; refine (h5 _).mono ?_; rintro e w' ⟨rfl, rfl⟩)
  go_ret2
  exact ⟨rfl, rfl⟩
end Go.Proofs.YtcpibkffeenehaaDoor
