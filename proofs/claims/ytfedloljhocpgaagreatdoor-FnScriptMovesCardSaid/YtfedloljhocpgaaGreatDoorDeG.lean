import Derived.Test.YtfedloljhocpgaaGreatDoorDeF
import Derived.Test.YtfedloljhocpgaaGreatDoorCut1
import Derived.Test.YtfedloljhocpgaaGreatDoorP2
namespace Go.Proofs.YtfedloljhocpgaaGreatDoor
open Go.RowKit Go.PM Go.PG
def CmdPost (W : World) (lv sv : Value) (xs : List Mv) (ss : List St) (out : ByteArray) (ok : Bool) (e : Ending) (w' : World) : Prop :=
  ∃ lv' sv', e = .returned (.tuple #[deskV lv' sv' out, .bool ok]) ∧ RdM w' lv' xs ∧ RdS w' sv' ss ∧ Nw W lv lv' ∧ Nw W sv sv' ∧ Below W.heap.size W w'
def BehPost (w : World) (lv sv : Value) (xs : List Mv) (ss : List St) (out line : ByteArray) (ok : Bool) (e : Ending) (w' : World) : Prop :=
  match ok with
  | true => ∃ lv' sv', e = .returned (.tuple #[deskV lv' sv' out, .nilIface]) ∧ RdM w' lv' xs ∧ RdS w' sv' ss ∧ Nw w lv lv' ∧ Nw w sv sv' ∧ Below w.heap.size w w'
  | false => e = .returned (.tuple #[deskV (.slice none 0 0) (.slice none 0 0) ⟨#[]⟩, .iface 160 (.agg #[.string line])]) ∧ Below w.heap.size w w'
def ObA (w W : World) : Prop := ∀ (j : Nat) o, (objA (w.heap.size + 2))[j]? = some o → W.heap[w.heap.size + 2 + 1 + j]? = some o

set_option maxRecDepth 100000 in
set_option maxHeartbeats 3200000 in
theorem behindAc_c (lv sv : Value) (xs xs' : List Mv) (ss ss' : List St) (out out' line : ByteArray) (ok : Bool) (hl : line.size ≤ 1048576) (w : World) (hx : RdM w lv xs) (hs : RdS w sv ss) (hcut : cutB line 32 = (line, ⟨#[]⟩, false)) (g : Nat) (bc : Nat) (hlk : (tabA (w.heap.size + 2)).lookup line = some (.func (.func g) #[] #[.pointer (some ⟨bc, 0, none⟩)])) (he : ∀ ys W, (callFunc g ys).run Tryz.prog W = .ok (.enter g ys) W)
    (hcmd : ∀ W, Below w.heap.size w W → ObA w W → Calls Tryz.prog g #[deskV lv sv out, .string ⟨#[]⟩, .pointer (some ⟨bc, 0, none⟩)] W (CmdPost W lv sv xs' ss' out' ok)) :
    Calls Tryz.prog 125 #[deskV lv sv out, .string line] w (BehPost w lv sv xs' ss' out' line ok) := by
  have HC := Lib.hid hcmd
  clear hcmd
  have HXo := Lib.hid hx
  have HSo := Lib.hid hs
  obtain ⟨A, n, c, rfl⟩ : ∃ A n c, lv = .slice A n c := by obtain ⟨A, c, e, _⟩ := hx; exact ⟨A, _, c, e⟩
  obtain ⟨B, m, d, rfl⟩ : ∃ A n c, sv = .slice A n c := by obtain ⟨A, c, e, _⟩ := hs; exact ⟨A, _, c, e⟩
  clear hx hs
  obtain ⟨W2, hW2⟩ : ∃ W2 : World, W2 = (w.alloc (.cells #[.slice A n c, .slice B m d, .string out] 93)).alloc (.cells #[.slice none 0 0, .slice none 0 0, .string ⟨#[]⟩] 93) := ⟨_, rfl⟩
  have K1 : At W2 w.heap.size 93 #[.slice A n c, .slice B m d, .string out] := by rw [hW2]; exact (At.new w _ _).alloc _
  have K2 : At W2 (w.heap.size + 1) 93 #[.slice none 0 0, .slice none 0 0, .string ⟨#[]⟩] := by rw [hW2]; have := At.new (w.alloc (.cells #[.slice A n c, .slice B m d, .string out] 93)) 93 #[.slice none 0 0, .slice none 0 0, .string ⟨#[]⟩]; simpa using this
  have hB2 : Below w.heap.size w W2 := by rw [hW2]; exact ((Below.refl _ _).alloc (Nat.le_refl _) _).alloc (by simp) _
  have hsz : W2.heap.size = w.heap.size + 2 := by rw [hW2]; simp
  have hs2 := hB2.size
  go_enter Tryz.func125, Tryz.ntmps125
  go_wp2_with (rw [← hW2])
  first
    | rw [← hW2]
    | skip
  clear hW2
  refine (commandsAlone_c W2).mono ?_
  rintro e w3 ⟨rfl, hM⟩
  have hb3 := hM.below
  rw [hsz] at hM hb3
  have hOb : Hid (∀ W, Below w3.heap.size w3 W → ObA w W) := fun W hW j o hj => by
    have h1 := hM.objs j o hj
    rw [hsz] at h1
    exact (hW.block _ (Array.getElem?_eq_some_iff.1 h1).1).trans h1
  have hmap := hM.map
  rw [hsz] at hmap
  have k1 := K1.keep (hM.below)
  have k2 := K2.keep (hM.below)
  have hB3 := hB2.trans (hM.below.mono hs2)
  have hs3 := hB3.size
  clear hM hb3 K1 K2 hB2
  have hcu := strCut_c line 32 w3 hl
  rw [hcut] at hcu
  go_wp2_with fail
  refine hcu.mono ?_
  rintro e w4 ⟨rfl, hb4⟩
  clear hcu hcut
  have hlo := run_lookup_some Tryz.underlying193 Tryz.underlying9 (hmap.keep hb4) hlk
  have hob4 := Lib.hid (hOb.out w4 hb4)
  have l1 := k1.keep hb4
  have l2 := k2.keep hb4
  have hB4 := hB3.trans (hb4.mono hs3)
  have hs4 := hB4.size
  clear hb4 k1 k2 hB3 hmap hlk hOb
  have q0 := l1.cell 0
  have q1 := l1.cell 1
  have q2 := l1.cell 2
  simp at q0 q1 q2
  go_wp2_with fail
  refine (HC.out w4 hB4 hob4.out).mono ?_
  rintro e w6 ⟨lv', sv', rfl, hx6, hs6, hn1, hn2, hb6⟩
  have n2 := l2.keep hb6
  have hB6 := hB4.trans (hb6.mono hs4)
  have hsz6 : w.heap.size + 1 < w6.heap.size := n2.lt
  have hw4 : w.heap.size + 1 < w4.heap.size := l2.lt
  have HX6 := Lib.hid hx6
  have HS6 := Lib.hid hs6
  obtain ⟨A', n', c', rfl⟩ : ∃ A n c, lv' = .slice A n c := by obtain ⟨A, c, e, _⟩ := hx6; exact ⟨A, _, c, e⟩
  obtain ⟨B', m', d', rfl⟩ : ∃ A n c, sv' = .slice A n c := by obtain ⟨A, c, e, _⟩ := hs6; exact ⟨A, _, c, e⟩
  have hs6' := hB6.size
  clear hb6 l1 l2 hB4 q0 q1 q2 hx6 hs6 hlo
  have hg0 : w6.grownBy (w6.alloc (.cells #[.slice A' n' c', .slice B' m' d', .string out'] 93)) (some (w.heap.size + 1)) := grown_below ((Below.refl _ _).alloc (Nat.le_refl _) _) _
  have hB7 : Below w.heap.size w (w6.alloc (.cells #[.slice A' n' c', .slice B' m' d', .string out'] 93)) := hB6.alloc hs6' _
  have n3 : At (w6.alloc (.cells #[.slice A' n' c', .slice B' m' d', .string out'] 93)) (w.heap.size + 1) 93 #[.slice none 0 0, .slice none 0 0, .string ⟨#[]⟩] := n2.alloc _
  have n4 : At (w6.alloc (.cells #[.slice A' n' c', .slice B' m' d', .string out'] 93)) w6.heap.size 93 #[.slice A' n' c', .slice B' m' d', .string out'] := At.new _ _ _
  have hs7 : w.heap.size ≤ (w6.alloc (.cells #[.slice A' n' c', .slice B' m' d', .string out'] 93)).heap.size := hB7.size
  clear n2 hB6
  generalize hW7 : w6.alloc (.cells #[.slice A' n' c', .slice B' m' d', .string out'] 93) = W7 at *
  have k20 := n3.cell 0
  have k21 := n3.cell 1
  have k22 := n3.cell 2
  have j20 := n4.cell 0
  have j21 := n4.cell 1
  have j22 := n4.cell 2
  have f0 := n3.frozen 0
  have f1 := n3.frozen 1
  have f2 := n3.frozen 2
  have hlt3 := n3.lt
  have hne : ¬ w6.heap.size = w.heap.size + 1 := by omega
  simp at k20 k21 k22 j20 j21 j22
  cases ok with
  | true =>
    have kk := ((n3.set 0 (.slice A' n' c')).set 1 (.slice B' m' d')).set 2 (.string out')
    have hB8 : Below w.heap.size w (((W7.setCell ⟨w.heap.size + 1, 0, none⟩ (.slice A' n' c')).setCell ⟨w.heap.size + 1, 1, none⟩ (.slice B' m' d')).setCell ⟨w.heap.size + 1, 2, none⟩ (.string out')) := ((hB7.setCell (Nat.le_succ _) _).setCell (Nat.le_succ _) _).setCell (Nat.le_succ _) _
    have hg8 : w6.grownBy (((W7.setCell ⟨w.heap.size + 1, 0, none⟩ (.slice A' n' c')).setCell ⟨w.heap.size + 1, 1, none⟩ (.slice B' m' d')).setCell ⟨w.heap.size + 1, 2, none⟩ (.string out')) (some (w.heap.size + 1)) := grown_trans hg0 (grown_trans (grown_setc _ _ _ _) (grown_trans (grown_setc _ _ _ _) (grown_setc _ _ _ _)))
    have HR := Lib.hid (Rd.nw HXo.out hn1 HX6.out hg8 (by omega) (by omega))
    have HR2 := Lib.hid (Rd.nw HSo.out hn2 HS6.out hg8 (by omega) (by omega))
    have HN1 := Lib.hid (hn1.older (w := w) (by omega))
    have HN2 := Lib.hid (hn2.older (w := w) (by omega))
    simp at kk
    clear n3 n4 hB7 hg0 hg8 hn1 hn2 HX6 HS6
    go_wp2_with (rw [hW7])
    first
      | rw [hW7]
      | skip
    go_wp2
    refine bodyPost_ret (v := .tuple #[deskV (.slice A' n' c') (.slice B' m' d') out', .nilIface]) (results_desk2 _ 4 5 Tryz.results125 _ (w.heap.size + 1) _ _ _ _ kk _ rfl rfl) rfl ?_
    exact ⟨_, _, rfl, HR.out, HR2.out, HN1.out, HN2.out, hB8⟩
  | false =>
    have kk := ((n3.set 0 (.slice none 0 0)).set 1 (.slice none 0 0)).set 2 (.string ⟨#[]⟩)
    have hB8 : Below w.heap.size w (((W7.setCell ⟨w.heap.size + 1, 0, none⟩ (.slice none 0 0)).setCell ⟨w.heap.size + 1, 1, none⟩ (.slice none 0 0)).setCell ⟨w.heap.size + 1, 2, none⟩ (.string ⟨#[]⟩)) := ((hB7.setCell (Nat.le_succ _) _).setCell (Nat.le_succ _) _).setCell (Nat.le_succ _) _
    simp at kk
    clear n3 n4 hB7 hg0 hn1 hn2 HX6 HS6
    go_wp2_with (rw [hW7])
    first
      | rw [hW7]
      | skip
    go_wp2
    refine bodyPost_ret (v := .tuple #[deskV (.slice none 0 0) (.slice none 0 0) ⟨#[]⟩, .iface 160 (.agg #[.string line])]) (results_desk2 _ 4 5 Tryz.results125 _ (w.heap.size + 1) _ _ _ _ kk _ rfl rfl) rfl ?_
    exact ⟨rfl, hB8⟩
set_option maxRecDepth 100000 in
set_option maxHeartbeats 3200000 in
theorem behindA_c (lv sv : Value) (xs xs' : List Mv) (ss ss' : List St) (out out' line : ByteArray) (ok : Bool) (hl : line.size ≤ 1048576) (w : World) (hx : RdM w lv xs) (hs : RdS w sv ss) (hcut : cutB line 32 = (line, ⟨#[]⟩, false)) (g : Nat) (hlk : (tabA (w.heap.size + 2)).lookup line = some (.func (.func g) #[] #[])) (he : ∀ ys W, (callFunc g ys).run Tryz.prog W = .ok (.enter g ys) W)
    (hcmd : ∀ W, Below w.heap.size w W → ObA w W → Calls Tryz.prog g #[deskV lv sv out, .string ⟨#[]⟩] W (CmdPost W lv sv xs' ss' out' ok)) :
    Calls Tryz.prog 125 #[deskV lv sv out, .string line] w (BehPost w lv sv xs' ss' out' line ok) := by
  have HC := Lib.hid hcmd
  clear hcmd
  have HXo := Lib.hid hx
  have HSo := Lib.hid hs
  obtain ⟨A, n, c, rfl⟩ : ∃ A n c, lv = .slice A n c := by obtain ⟨A, c, e, _⟩ := hx; exact ⟨A, _, c, e⟩
  obtain ⟨B, m, d, rfl⟩ : ∃ A n c, sv = .slice A n c := by obtain ⟨A, c, e, _⟩ := hs; exact ⟨A, _, c, e⟩
  clear hx hs
  obtain ⟨W2, hW2⟩ : ∃ W2 : World, W2 = (w.alloc (.cells #[.slice A n c, .slice B m d, .string out] 93)).alloc (.cells #[.slice none 0 0, .slice none 0 0, .string ⟨#[]⟩] 93) := ⟨_, rfl⟩
  have K1 : At W2 w.heap.size 93 #[.slice A n c, .slice B m d, .string out] := by rw [hW2]; exact (At.new w _ _).alloc _
  have K2 : At W2 (w.heap.size + 1) 93 #[.slice none 0 0, .slice none 0 0, .string ⟨#[]⟩] := by rw [hW2]; have := At.new (w.alloc (.cells #[.slice A n c, .slice B m d, .string out] 93)) 93 #[.slice none 0 0, .slice none 0 0, .string ⟨#[]⟩]; simpa using this
  have hB2 : Below w.heap.size w W2 := by rw [hW2]; exact ((Below.refl _ _).alloc (Nat.le_refl _) _).alloc (by simp) _
  have hsz : W2.heap.size = w.heap.size + 2 := by rw [hW2]; simp
  have hs2 := hB2.size
  go_enter Tryz.func125, Tryz.ntmps125
  go_wp2_with (rw [← hW2])
  first
    | rw [← hW2]
    | skip
  clear hW2
  refine (commandsAlone_c W2).mono ?_
  rintro e w3 ⟨rfl, hM⟩
  have hb3 := hM.below
  rw [hsz] at hM hb3
  have hOb : Hid (∀ W, Below w3.heap.size w3 W → ObA w W) := fun W hW j o hj => by
    have h1 := hM.objs j o hj
    rw [hsz] at h1
    exact (hW.block _ (Array.getElem?_eq_some_iff.1 h1).1).trans h1
  have hmap := hM.map
  rw [hsz] at hmap
  have k1 := K1.keep (hM.below)
  have k2 := K2.keep (hM.below)
  have hB3 := hB2.trans (hM.below.mono hs2)
  have hs3 := hB3.size
  clear hM hb3 K1 K2 hB2
  have hcu := strCut_c line 32 w3 hl
  rw [hcut] at hcu
  go_wp2_with fail
  refine hcu.mono ?_
  rintro e w4 ⟨rfl, hb4⟩
  clear hcu hcut
  have hlo := run_lookup_some Tryz.underlying193 Tryz.underlying9 (hmap.keep hb4) hlk
  have hob4 := Lib.hid (hOb.out w4 hb4)
  have l1 := k1.keep hb4
  have l2 := k2.keep hb4
  have hB4 := hB3.trans (hb4.mono hs3)
  have hs4 := hB4.size
  clear hb4 k1 k2 hB3 hmap hlk hOb
  have q0 := l1.cell 0
  have q1 := l1.cell 1
  have q2 := l1.cell 2
  simp at q0 q1 q2
  go_wp2_with fail
  refine (HC.out w4 hB4 hob4.out).mono ?_
  rintro e w6 ⟨lv', sv', rfl, hx6, hs6, hn1, hn2, hb6⟩
  have n2 := l2.keep hb6
  have hB6 := hB4.trans (hb6.mono hs4)
  have hsz6 : w.heap.size + 1 < w6.heap.size := n2.lt
  have hw4 : w.heap.size + 1 < w4.heap.size := l2.lt
  have HX6 := Lib.hid hx6
  have HS6 := Lib.hid hs6
  obtain ⟨A', n', c', rfl⟩ : ∃ A n c, lv' = .slice A n c := by obtain ⟨A, c, e, _⟩ := hx6; exact ⟨A, _, c, e⟩
  obtain ⟨B', m', d', rfl⟩ : ∃ A n c, sv' = .slice A n c := by obtain ⟨A, c, e, _⟩ := hs6; exact ⟨A, _, c, e⟩
  have hs6' := hB6.size
  clear hb6 l1 l2 hB4 q0 q1 q2 hx6 hs6 hlo
  have hg0 : w6.grownBy (w6.alloc (.cells #[.slice A' n' c', .slice B' m' d', .string out'] 93)) (some (w.heap.size + 1)) := grown_below ((Below.refl _ _).alloc (Nat.le_refl _) _) _
  have hB7 : Below w.heap.size w (w6.alloc (.cells #[.slice A' n' c', .slice B' m' d', .string out'] 93)) := hB6.alloc hs6' _
  have n3 : At (w6.alloc (.cells #[.slice A' n' c', .slice B' m' d', .string out'] 93)) (w.heap.size + 1) 93 #[.slice none 0 0, .slice none 0 0, .string ⟨#[]⟩] := n2.alloc _
  have n4 : At (w6.alloc (.cells #[.slice A' n' c', .slice B' m' d', .string out'] 93)) w6.heap.size 93 #[.slice A' n' c', .slice B' m' d', .string out'] := At.new _ _ _
  have hs7 : w.heap.size ≤ (w6.alloc (.cells #[.slice A' n' c', .slice B' m' d', .string out'] 93)).heap.size := hB7.size
  clear n2 hB6
  generalize hW7 : w6.alloc (.cells #[.slice A' n' c', .slice B' m' d', .string out'] 93) = W7 at *
  have k20 := n3.cell 0
  have k21 := n3.cell 1
  have k22 := n3.cell 2
  have j20 := n4.cell 0
  have j21 := n4.cell 1
  have j22 := n4.cell 2
  have f0 := n3.frozen 0
  have f1 := n3.frozen 1
  have f2 := n3.frozen 2
  have hlt3 := n3.lt
  have hne : ¬ w6.heap.size = w.heap.size + 1 := by omega
  simp at k20 k21 k22 j20 j21 j22
  cases ok with
  | true =>
    have kk := ((n3.set 0 (.slice A' n' c')).set 1 (.slice B' m' d')).set 2 (.string out')
    have hB8 : Below w.heap.size w (((W7.setCell ⟨w.heap.size + 1, 0, none⟩ (.slice A' n' c')).setCell ⟨w.heap.size + 1, 1, none⟩ (.slice B' m' d')).setCell ⟨w.heap.size + 1, 2, none⟩ (.string out')) := ((hB7.setCell (Nat.le_succ _) _).setCell (Nat.le_succ _) _).setCell (Nat.le_succ _) _
    have hg8 : w6.grownBy (((W7.setCell ⟨w.heap.size + 1, 0, none⟩ (.slice A' n' c')).setCell ⟨w.heap.size + 1, 1, none⟩ (.slice B' m' d')).setCell ⟨w.heap.size + 1, 2, none⟩ (.string out')) (some (w.heap.size + 1)) := grown_trans hg0 (grown_trans (grown_setc _ _ _ _) (grown_trans (grown_setc _ _ _ _) (grown_setc _ _ _ _)))
    have HR := Lib.hid (Rd.nw HXo.out hn1 HX6.out hg8 (by omega) (by omega))
    have HR2 := Lib.hid (Rd.nw HSo.out hn2 HS6.out hg8 (by omega) (by omega))
    have HN1 := Lib.hid (hn1.older (w := w) (by omega))
    have HN2 := Lib.hid (hn2.older (w := w) (by omega))
    simp at kk
    clear n3 n4 hB7 hg0 hg8 hn1 hn2 HX6 HS6
    go_wp2_with (rw [hW7])
    first
      | rw [hW7]
      | skip
    go_wp2
    refine bodyPost_ret (v := .tuple #[deskV (.slice A' n' c') (.slice B' m' d') out', .nilIface]) (results_desk2 _ 4 5 Tryz.results125 _ (w.heap.size + 1) _ _ _ _ kk _ rfl rfl) rfl ?_
    exact ⟨_, _, rfl, HR.out, HR2.out, HN1.out, HN2.out, hB8⟩
  | false =>
    have kk := ((n3.set 0 (.slice none 0 0)).set 1 (.slice none 0 0)).set 2 (.string ⟨#[]⟩)
    have hB8 : Below w.heap.size w (((W7.setCell ⟨w.heap.size + 1, 0, none⟩ (.slice none 0 0)).setCell ⟨w.heap.size + 1, 1, none⟩ (.slice none 0 0)).setCell ⟨w.heap.size + 1, 2, none⟩ (.string ⟨#[]⟩)) := ((hB7.setCell (Nat.le_succ _) _).setCell (Nat.le_succ _) _).setCell (Nat.le_succ _) _
    simp at kk
    clear n3 n4 hB7 hg0 hn1 hn2 HX6 HS6
    go_wp2_with (rw [hW7])
    first
      | rw [hW7]
      | skip
    go_wp2
    refine bodyPost_ret (v := .tuple #[deskV (.slice none 0 0) (.slice none 0 0) ⟨#[]⟩, .iface 160 (.agg #[.string line])]) (results_desk2 _ 4 5 Tryz.results125 _ (w.heap.size + 1) _ _ _ _ kk _ rfl rfl) rfl ?_
    exact ⟨rfl, hB8⟩
set_option maxRecDepth 100000 in
set_option maxHeartbeats 3200000 in
theorem behindR_c (lv sv : Value) (xs xs' : List Mv) (ss ss' : List St) (out out' line : ByteArray) (ok : Bool) (hl : line.size ≤ 1048576) (w : World) (hx : RdM w lv xs) (hs : RdS w sv ss) (word rs : ByteArray) (hcut : cutB line 32 = (word, rs, true)) (g : Nat) (hlk : (tabR).lookup word = some (.func (.func g) #[] #[])) (he : ∀ ys W, (callFunc g ys).run Tryz.prog W = .ok (.enter g ys) W)
    (hcmd : ∀ W, Below w.heap.size w W → Calls Tryz.prog g #[deskV lv sv out, .string rs] W (CmdPost W lv sv xs' ss' out' ok)) :
    Calls Tryz.prog 125 #[deskV lv sv out, .string line] w (BehPost w lv sv xs' ss' out' line ok) := by
  have HC := Lib.hid hcmd
  clear hcmd
  have HXo := Lib.hid hx
  have HSo := Lib.hid hs
  obtain ⟨A, n, c, rfl⟩ : ∃ A n c, lv = .slice A n c := by obtain ⟨A, c, e, _⟩ := hx; exact ⟨A, _, c, e⟩
  obtain ⟨B, m, d, rfl⟩ : ∃ A n c, sv = .slice A n c := by obtain ⟨A, c, e, _⟩ := hs; exact ⟨A, _, c, e⟩
  clear hx hs
  obtain ⟨W2, hW2⟩ : ∃ W2 : World, W2 = (w.alloc (.cells #[.slice A n c, .slice B m d, .string out] 93)).alloc (.cells #[.slice none 0 0, .slice none 0 0, .string ⟨#[]⟩] 93) := ⟨_, rfl⟩
  have K1 : At W2 w.heap.size 93 #[.slice A n c, .slice B m d, .string out] := by rw [hW2]; exact (At.new w _ _).alloc _
  have K2 : At W2 (w.heap.size + 1) 93 #[.slice none 0 0, .slice none 0 0, .string ⟨#[]⟩] := by rw [hW2]; have := At.new (w.alloc (.cells #[.slice A n c, .slice B m d, .string out] 93)) 93 #[.slice none 0 0, .slice none 0 0, .string ⟨#[]⟩]; simpa using this
  have hB2 : Below w.heap.size w W2 := by rw [hW2]; exact ((Below.refl _ _).alloc (Nat.le_refl _) _).alloc (by simp) _
  have hsz : W2.heap.size = w.heap.size + 2 := by rw [hW2]; simp
  have hs2 := hB2.size
  go_enter Tryz.func125, Tryz.ntmps125
  go_wp2_with (rw [← hW2])
  first
    | rw [← hW2]
    | skip
  clear hW2
  refine (commandsAlone_c W2).mono ?_
  rintro e w3 ⟨rfl, hM⟩
  have hb3 := hM.below
  rw [hsz] at hM hb3
  have k1 := K1.keep (hM.below)
  have k2 := K2.keep (hM.below)
  have hB3 := hB2.trans (hM.below.mono hs2)
  have hs3 := hB3.size
  clear hM hb3 K1 K2 hB2
  have hcu := strCut_c line 32 w3 hl
  rw [hcut] at hcu
  go_wp2_with fail
  refine hcu.mono ?_
  rintro e w4 ⟨rfl, hb4⟩
  clear hcu hcut
  have m1 := k1.keep hb4
  have m2 := k2.keep hb4
  have hBm := hB3.trans (hb4.mono hs3)
  have hsm := hBm.size
  clear hb4 k1 k2 hB3
  go_wp2_with fail
  refine (commandsWithRest_c _).mono ?_
  rintro e w5 ⟨rfl, hM⟩
  have hlo := run_lookup_some Tryz.underlying193 Tryz.underlying9 hM.map hlk
  have l1 := m1.keep hM.below
  have l2 := m2.keep hM.below
  have hB4 := hBm.trans (hM.below.mono hsm)
  have hs4 := hB4.size
  clear hM m1 m2 hBm hlk
  have q0 := l1.cell 0
  have q1 := l1.cell 1
  have q2 := l1.cell 2
  simp at q0 q1 q2
  go_wp2_with fail
  refine (HC.out w5 hB4).mono ?_
  rintro e w6 ⟨lv', sv', rfl, hx6, hs6, hn1, hn2, hb6⟩
  have n2 := l2.keep hb6
  have hB6 := hB4.trans (hb6.mono hs4)
  have hsz6 : w.heap.size + 1 < w6.heap.size := n2.lt
  have hw4 : w.heap.size + 1 < w5.heap.size := l2.lt
  have HX6 := Lib.hid hx6
  have HS6 := Lib.hid hs6
  obtain ⟨A', n', c', rfl⟩ : ∃ A n c, lv' = .slice A n c := by obtain ⟨A, c, e, _⟩ := hx6; exact ⟨A, _, c, e⟩
  obtain ⟨B', m', d', rfl⟩ : ∃ A n c, sv' = .slice A n c := by obtain ⟨A, c, e, _⟩ := hs6; exact ⟨A, _, c, e⟩
  have hs6' := hB6.size
  clear hb6 l1 l2 hB4 q0 q1 q2 hx6 hs6 hlo
  have hg0 : w6.grownBy (w6.alloc (.cells #[.slice A' n' c', .slice B' m' d', .string out'] 93)) (some (w.heap.size + 1)) := grown_below ((Below.refl _ _).alloc (Nat.le_refl _) _) _
  have hB7 : Below w.heap.size w (w6.alloc (.cells #[.slice A' n' c', .slice B' m' d', .string out'] 93)) := hB6.alloc hs6' _
  have n3 : At (w6.alloc (.cells #[.slice A' n' c', .slice B' m' d', .string out'] 93)) (w.heap.size + 1) 93 #[.slice none 0 0, .slice none 0 0, .string ⟨#[]⟩] := n2.alloc _
  have n4 : At (w6.alloc (.cells #[.slice A' n' c', .slice B' m' d', .string out'] 93)) w6.heap.size 93 #[.slice A' n' c', .slice B' m' d', .string out'] := At.new _ _ _
  have hs7 : w.heap.size ≤ (w6.alloc (.cells #[.slice A' n' c', .slice B' m' d', .string out'] 93)).heap.size := hB7.size
  clear n2 hB6
  generalize hW7 : w6.alloc (.cells #[.slice A' n' c', .slice B' m' d', .string out'] 93) = W7 at *
  have k20 := n3.cell 0
  have k21 := n3.cell 1
  have k22 := n3.cell 2
  have j20 := n4.cell 0
  have j21 := n4.cell 1
  have j22 := n4.cell 2
  have f0 := n3.frozen 0
  have f1 := n3.frozen 1
  have f2 := n3.frozen 2
  have hlt3 := n3.lt
  have hne : ¬ w6.heap.size = w.heap.size + 1 := by omega
  simp at k20 k21 k22 j20 j21 j22
  cases ok with
  | true =>
    have kk := ((n3.set 0 (.slice A' n' c')).set 1 (.slice B' m' d')).set 2 (.string out')
    have hB8 : Below w.heap.size w (((W7.setCell ⟨w.heap.size + 1, 0, none⟩ (.slice A' n' c')).setCell ⟨w.heap.size + 1, 1, none⟩ (.slice B' m' d')).setCell ⟨w.heap.size + 1, 2, none⟩ (.string out')) := ((hB7.setCell (Nat.le_succ _) _).setCell (Nat.le_succ _) _).setCell (Nat.le_succ _) _
    have hg8 : w6.grownBy (((W7.setCell ⟨w.heap.size + 1, 0, none⟩ (.slice A' n' c')).setCell ⟨w.heap.size + 1, 1, none⟩ (.slice B' m' d')).setCell ⟨w.heap.size + 1, 2, none⟩ (.string out')) (some (w.heap.size + 1)) := grown_trans hg0 (grown_trans (grown_setc _ _ _ _) (grown_trans (grown_setc _ _ _ _) (grown_setc _ _ _ _)))
    have HR := Lib.hid (Rd.nw HXo.out hn1 HX6.out hg8 (by omega) (by omega))
    have HR2 := Lib.hid (Rd.nw HSo.out hn2 HS6.out hg8 (by omega) (by omega))
    have HN1 := Lib.hid (hn1.older (w := w) (by omega))
    have HN2 := Lib.hid (hn2.older (w := w) (by omega))
    simp at kk
    clear n3 n4 hB7 hg0 hg8 hn1 hn2 HX6 HS6
    go_wp2_with (rw [hW7])
    first
      | rw [hW7]
      | skip
    go_wp2
    refine bodyPost_ret (v := .tuple #[deskV (.slice A' n' c') (.slice B' m' d') out', .nilIface]) (results_desk2 _ 4 5 Tryz.results125 _ (w.heap.size + 1) _ _ _ _ kk _ rfl rfl) rfl ?_
    exact ⟨_, _, rfl, HR.out, HR2.out, HN1.out, HN2.out, hB8⟩
  | false =>
    have kk := ((n3.set 0 (.slice none 0 0)).set 1 (.slice none 0 0)).set 2 (.string ⟨#[]⟩)
    have hB8 : Below w.heap.size w (((W7.setCell ⟨w.heap.size + 1, 0, none⟩ (.slice none 0 0)).setCell ⟨w.heap.size + 1, 1, none⟩ (.slice none 0 0)).setCell ⟨w.heap.size + 1, 2, none⟩ (.string ⟨#[]⟩)) := ((hB7.setCell (Nat.le_succ _) _).setCell (Nat.le_succ _) _).setCell (Nat.le_succ _) _
    simp at kk
    clear n3 n4 hB7 hg0 hn1 hn2 HX6 HS6
    go_wp2_with (rw [hW7])
    first
      | rw [hW7]
      | skip
    go_wp2
    refine bodyPost_ret (v := .tuple #[deskV (.slice none 0 0) (.slice none 0 0) ⟨#[]⟩, .iface 160 (.agg #[.string line])]) (results_desk2 _ 4 5 Tryz.results125 _ (w.heap.size + 1) _ _ _ _ kk _ rfl rfl) rfl ?_
    exact ⟨rfl, hB8⟩
end Go.Proofs.YtfedloljhocpgaaGreatDoor

