import Derived.Test.YteadhnpmmpninaaGreatDraw3
import Derived.Test.YteadhnpmmpninaaGreatDrawE
import Derived.Test.YteadhnpmmpninaaGreatBytes
namespace Go.Proofs.YteadhnpmmpninaaGreat
open Go.RowKit Go.PM
set_option maxHeartbeats 1600000 in
theorem drawOrderMoves_c (w : World) (v : Value) (n : Nat) (hv : RdB w w.heap.size v n) :
    Calls Tryz.prog 24 #[v] w fun e w' => ∃ u xs, e = .returned u ∧ w'.ownsRow w.heap.size 45 2 u xs.length (mcells xs) ∧ (xs.length ≤ 65 ∧ ∀ m ∈ xs, m.1.size ≤ 64 ∧ m.2.size ≤ 64) ∧ Below w.heap.size w w' := by
  have HO := Lib.hid (l13Open_c w v n hv)
  go_enter Tryz.func24, Tryz.ntmps24
  go_wp2_with fail
  refine HO.out.mono ?_
  rintro e w1 ⟨r, rfl, R1, b1⟩
  have hs1 := b1.size
  have hB := R1.1
  have HP := Lib.hid (pick_c w1 _ r 3 0 R1 (by omega) (by omega) (by omega))
  clear HO R1
  go_wp2_with fail
  refine HP.out.mono ?_
  rintro e w2 ⟨k, rfl, k0, k1, R2, g2⟩
  have b2 : Below w.heap.size w w2 := b1.trans (below_grown g2 hs1 (fun g e => by cases e; exact hB))
  have hs2 := b2.size
  clear HP b1 g2
  by_cases h0 : k = 0
  · subst h0
    have HS := Lib.hid (l4Exchange_c w2 _ r _ R2 (by omega))
    clear R2
    go_wp2_with fail
    refine HS.out.mono ?_
    rintro e w3 ⟨u, xs, p', rfl, ho, hsh, R3, hp, g3⟩
    have HSH := Lib.hid hsh
    have ho2 := own_more ho hs2
    have b3 : Below w.heap.size w w3 := b2.trans (below_grown g3 hs2 (fun g e => by cases e; exact hB))
    clear HS hsh
    go_wp2
    go_ret
    exact ⟨_, xs, rfl, ho2, HSH.out, b3⟩
  · have t0 : (k == 0) = false := by simpa using h0
    have HS := Lib.hid (l1Some_c w2 _ r _ R2 (by omega))
    clear R2
    go_wp2_with fail
    refine HS.out.mono ?_
    rintro e w3 ⟨u, xs, p', rfl, ho, hsh, R3, hp, g3⟩
    have HSH := Lib.hid hsh
    have ho2 := own_more ho hs2
    have b3 : Below w.heap.size w w3 := b2.trans (below_grown g3 hs2 (fun g e => by cases e; exact hB))
    clear HS hsh
    go_wp2
    go_ret
    exact ⟨_, xs, rfl, ho2, HSH.out, b3⟩
end Go.Proofs.YteadhnpmmpninaaGreat
