import Derived.Test.YtinggcjjdgibbabDoorDrawV
import Derived.Test.YtinggcjjdgibbabDoorDraw3
import Derived.Test.YtinggcjjdgibbabDoorTextP
namespace Go.PM
open Go.RowKit
theorem RdB.now {w w' : World} {n : Nat} {v : Value} (h : RdB w w.heap.size v n) (hb : Below w.heap.size w w') : RdB w' w'.heap.size v n := by
  obtain ⟨A, cap, e, h1, h2, h3⟩ := h.keep (grown_below hb none) (fun r e => by cases e)
  refine ⟨A, cap, e, h1, h2, fun k hk => ?_⟩
  obtain ⟨b, off, c, e1, _, hl, hc⟩ := h3 k hk
  exact ⟨b, off, c, e1, hl, hl, hc⟩
end Go.PM
namespace Go.Proofs.YtinggcjjdgibbabDoor
open Go.RowKit Go.PM

end Go.Proofs.YtinggcjjdgibbabDoor
