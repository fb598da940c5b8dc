import Derived.Test.YtplapaojgcloaaaGreatDoorSt5
import Derived.Test.YtplapaojgcloaaaGreatDoorSpS2
namespace Go.PM
open Go.RowKit
theorem src_okC {xs : List Mv} (h : MV xs) : ∀ p, p < 9 → okC (srcT (tabOf xs) p) = true := by
  intro p hp
  rw [srcM_nm h hp]
  unfold srcM
  cases hf : xs.find? (fun m => decide (m.1 = nm p)) with
  | none =>
    show okC (nm p) = true
    unfold okC; rw [(cidx_nm hp).1]; rfl
  | some m =>
    have hm := List.mem_of_find?_eq_some hf
    have h1 := h.1 m hm
    unfold mok at h1; rw [Bool.and_eq_true] at h1
    exact isS_okC h1.2
def aoB (xs : List Mv) (s : ByteArray) : ByteArray := okS (mvalid xs && stateV s) (stB (aoS (tabOf xs) (ofB s)))
def ioB (xs : List St) (s : ByteArray) : ByteArray := okS (svalid xs && stateV s) (stB (runS xs xs.length (ofB s)))
theorem okS_yes (s : ByteArray) : okS true s = s := rfl
theorem okS_no (s : ByteArray) : okS false s = ⟨#[]⟩ := rfl
end Go.PM
namespace Go.Proofs.YtplapaojgcloaaaGreatDoor
open Go.RowKit Go.PM

end Go.Proofs.YtplapaojgcloaaaGreatDoor
