import Derived.Test.YtdhhmphnmllbhaaBusy
import Derived.Test.YtdhhmphnmllbhaaDrawF
import Derived.Test.YtdhhmphnmllbhaaTurn
import Derived.Great.BuildSlice
namespace Go.PM
open Go.RowKit
def shM (xs : List Mv) : Prop := xs.length ≤ 65 ∧ ∀ m ∈ xs, m.1.size ≤ 64 ∧ m.2.size ≤ 64
/-- two lists that are drawn -/
def Two (w w' : World) (u z : Value) : Prop := ∃ xs ys, RdM w' u xs ∧ RdM w' z ys ∧ shM xs ∧ shM ys ∧ Below w.heap.size w w'
theorem two_grown {w w' : World} {row : Option Nat} {c : Nat} {cs : List Value} (h : ∀ j u, cs[j]? = some u → w.cell? ((⟨c, 0, none⟩ : Addr).add j) = some u) (hg : w.grownBy w' row) (hl : c < w.heap.size) (hne : row ≠ some c) :
    ∀ j u, cs[j]? = some u → w'.cell? ((⟨c, 0, none⟩ : Addr).add j) = some u := by
  intro j u hj
  have h1 := h j u hj
  have hh := hg.block c hl (fun e => hne e.symm)
  have hb : ((⟨c, 0, none⟩ : Addr).add j).block = c := by unfold Addr.add; split <;> rfl
  simp only [World.cell?, hb, hh] at h1 ⊢
  exact h1
theorem srcM_sh {xs : List Mv} (h : shM xs) {a : ByteArray} (ha : a.size ≤ 64) : (srcM xs a).size ≤ 64 := by
  unfold srcM
  cases hf : xs.find? (fun x => decide (x.1 = a)) with
  | none => exact ha
  | some x => exact (h.2 x (List.mem_of_find?_eq_some hf)).2
theorem busy_sh {xs : List Mv} (h : shM xs) : shM (busyF xs 9) := by
  refine ⟨Nat.le_trans (busyF_len xs 9) (by decide), fun m hm => ?_⟩
  unfold busyF at hm
  obtain ⟨p, hp, rfl⟩ := List.mem_map.1 hm
  have hp9 : p < 9 := List.mem_range.1 (List.mem_filter.1 hp).1
  have h1 : (nm p).size = 1 := rfl
  exact ⟨by show (nm p).size ≤ 64; omega, srcM_sh h (by omega)⟩
theorem turn_sh {x : Mv} {xs : List Mv} (h : shM (x :: xs)) : shM (xs ++ [x]) := by
  refine ⟨by have := h.1; simpa using this, fun m hm => h.2 m ?_⟩
  rcases List.mem_append.1 hm with h1 | h1
  · exact List.mem_cons_of_mem _ h1
  · rw [List.mem_singleton] at h1; subst h1; exact List.mem_cons_self ..
end Go.PM
namespace Go.Proofs.Ytdhhmphnmllbhaa
open Go.RowKit Go.PM
open Go.Lib (indexByte)

set_option maxHeartbeats 800000 in
theorem drawDropIdle_c (w : World) (v : Value) (n : Nat) (hv : RdB w w.heap.size v n) :
    Calls Try.prog 12 #[v] w fun e w' => ∃ u xs, e = .returned u ∧ w'.ownsRow w.heap.size 37 2 u xs.length (mcells xs) ∧ (xs.length ≤ 65 ∧ ∀ m ∈ xs, m.1.size ≤ 64 ∧ m.2.size ≤ 64) ∧ Below w.heap.size w w' := by
  have HO := Lib.hid (l13Open_c w v n hv)
  go_enter Try.func12, Try.ntmps12
  go_wp2_with fail
  refine HO.out.mono ?_
  rintro e w1 ⟨r, rfl, R1, b1⟩
  have hs1 := b1.size
  have hB := R1.1
  have hlt : r < w1.heap.size := by obtain ⟨_, _, v, n, _, _, h⟩ := R1; exact h.lt
  have HS := Lib.hid (l1Some_c w1 _ r 0 R1 (by omega))
  go_wp2_with fail
  refine HS.out.mono ?_
  rintro e w2 ⟨u, xs, p', rfl, ho, hsh, R2, hp, g2⟩
  have HSH := Lib.hid hsh
  have ho2 := own_more ho hs1
  have b2 : Below w.heap.size w w2 := b1.trans (below_grown g2 hs1 (fun g e => by cases e; exact hB))
  clear HO HS hsh
  go_wp2
  go_ret
  exact ⟨_, xs, rfl, ho2, HSH.out, b2⟩
/-- an append of any number of moves, as one operation -/
theorem app_rows {o : Oper} {a : Act} {K : Act → World → Prop} {Q : Exit → Act → World → Prop} {w : World} (s x : Operand)
    (ho : o.op = .call { callee := .builtin .append, args := #[s, x], argTypes := #[26, 26] })
    (base : Nat) (v : Value) (ys ms : List Mv) (ad : Addr) (c : Nat) (hs : a.eval s = v) (hx : a.eval x = .slice (some ad) ms.length c)
    (hown : w.ownsRow base 37 2 v ys.length (mcells ys)) (hnew : ∀ j u, (mcells ms)[j]? = some u → w.cell? (ad.add j) = some u)
    (hlen : ys.length + ms.length ≤ 1048576) (hbase : base ≤ w.heap.size)
    (h : ∀ v' w', w'.ownsRow base 37 2 v' (ys ++ ms).length (mcells (ys ++ ms)) → w.grownBy w' v.ownBlock → K (a.put o.dst v') w') : o.wp Try.prog a w K Q := by
  obtain ⟨i0, hi0, hz0, hz1, hz2⟩ := info_parts infoMv
  refine wp_append_own w s x _ ho base 37 i0 _ 2 32 Try.underlying26 hi0 hz0 hz1 hz2 rfl (by omega) v ys.length (mcells ys) hs hown ad ms.length c (mcells ms) hx (mcells_length ms) hnew
    (by
      intro u hu
      unfold mcells at hu
      obtain ⟨m, _, hm⟩ := List.mem_flatMap.1 hu
      simp at hm; rcases hm with rfl | rfl <;> rfl) (by simp only [maxLen]; omega) (by omega) hbase ?_
  intro v' w' h2 h3 _
  refine h v' w' ?_ h3
  rw [mcells_append, List.length_append]
  exact h2
theorem slice_mv {o : Oper} {a : Act} {w : World} {K : Act → World → Prop} {Q : Exit → Act → World → Prop} (x : Operand) (ho : o.op = .buildSlice 26 1 #[(0, x)]) (s t : ByteArray) (hx : a.eval x = .agg #[.string s, .string t])
    (h : K (a.put o.dst (.slice (some ⟨w.heap.size, 0, none⟩) 1 1)) (w.alloc (.cells #[.string s, .string t] 37))) : o.wp Try.prog a w K Q := by
  obtain ⟨i0, hi0, hz0, hz1, hz2⟩ := info_parts infoMv
  refine wp_buildSlice 26 37 1 #[(0, x)] ho #[.string s, .string t] i0 _ Try.underlying26 hi0 hz0 (by rw [hz1]; decide) (by rw [hz1]; decide) ?_ h
  have hr : Array.range 2 = #[0, 1] := by decide
  simp [hx, hz1, Instr.fill, Value.cells, hr]

set_option maxRecDepth 100000 in
set_option maxHeartbeats 3200000 in
theorem drawSameMoves_c (w : World) (v : Value) (n : Nat) (hv : RdB w w.heap.size v n) :
    Calls Try.prog 17 #[v] w fun e w' => ∃ u z, e = .returned (.tuple #[u, z]) ∧ Two w w' u z := by
  have HO := Lib.hid (l13Open_c w v n hv)
  go_enter Try.func17, Try.ntmps17
  go_wp2_with fail
  refine HO.out.mono ?_
  rintro e w1 ⟨r, rfl, R1, b1⟩
  have hs1 := b1.size
  have hB := R1.1
  have HS := Lib.hid (l1Some_c w1 _ r 0 R1 (by omega))
  have hlt : r < w1.heap.size := by obtain ⟨_, _, v, n, _, _, h⟩ := R1; exact h.lt
  go_wp2_with fail
  refine HS.out.mono ?_
  rintro e w2 ⟨u, xs, p', rfl, ho, hsh, R2, hp, g2⟩
  have HSH : Hid (shM xs) := hsh
  have hxl := hsh.1
  have hs2 := g2.size
  have b2 : Below w.heap.size w w2 := b1.trans (below_grown g2 hs1 (fun g e => by cases e; exact hB))
  clear HO HS hsh R1 b1
  have HP := Lib.hid (pick_c w2 _ r 3 p' R2 (by omega) (by omega) (by omega))
  go_wp2_with fail
  refine HP.out.mono ?_
  rintro e w3 ⟨k, rfl, k0, k1, R3, g3⟩
  have hs3 := g3.size
  have ho3 := own_grown ho g3 (.inl (fun e => by have := own_block_ge ho r e; omega))
  have b3 : Below w.heap.size w w3 := b2.trans (below_grown g3 (by omega) (fun g e => by cases e; exact hB))
  have X3 : RdM w3 u xs := Rd.of_own ho3
  have hlt3 : r < w3.heap.size := by obtain ⟨_, _, v, n, _, _, h⟩ := R3; exact h.lt
  have HL : Hid (∀ W, Below w3.heap.size w3 W → Rdr W 111 w.heap.size r (p' + 1) → Calls Try.prog 47 #[.pointer (some ⟨r, 0, none⟩)] W fun e w' => ∃ z ys, e = .returned z ∧ RdM w' u xs ∧ RdM w' z ys ∧ shM ys ∧ Below w.heap.size w w') := fun W hW R =>
    (l1Some_c W _ r (p' + 1) R (by omega)).mono fun e w' ⟨z, ys, q, e1, ho', hsh', _, _, g⟩ => ⟨z, ys, e1, Rd.of_own (own_grown (own_keep ho3 hW) g (.inl (fun e => by have := own_block_ge ho3 r e; omega))), Rd.of_own ho', hsh', (b3.trans (hW.mono (by omega))).trans (below_grown g (by have := hW.size; omega) (fun g e => by cases e; exact hB))⟩
  clear HP g3 g2 b2 ho R2
  rcases (show k = 0 ∨ k = 1 ∨ k = 2 by omega) with rfl | rfl | rfl
  · go_wp2_with fail
    refine (l1Busy_c xs u _ X3).mono ?_
    rintro e w4 ⟨z, rfl, ho4, b4⟩
    have X4 := X3.below b4
    have Y4 : RdM w4 z _ := Rd.of_own ho4
    have B4 := b3.trans (b4.mono (by omega))
    go_wp2
    go_ret2
    exact ⟨_, _, rfl, xs, _, X4, Y4, HSH.out, busy_sh HSH.out, B4⟩
  · have HLL : Hid (∀ W, Below w3.heap.size w3 W → Rdr W 111 w.heap.size r (p' + 1) → Calls Try.prog 47 #[.pointer (some ⟨r, 0, none⟩)] W fun e w' => ∃ z ys, e = .returned z ∧ RdM w' u xs ∧ RdM w' z ys ∧ shM ys ∧ Below w.heap.size w w') := HL.out
    obtain ⟨A, cap, rfl, hn, hc, hcell⟩ := X3.open
    cases xs with
    | nil =>
      go_wp2_with fail
      refine (HL.out _ (Below.refl _ _) R3).mono ?_
      rintro e w4 ⟨z, ys, rfl, X4, Y4, hys, B4⟩
      have HYS := Lib.hid hys
      clear hys
      go_wp2
      go_ret2
      exact ⟨_, _, rfl, [], ys, X4, Y4, HSH.out, HYS.out, B4⟩
    | cons x rest =>
      have hc0 := hcell 0 (by simp)
      clear hcell
      obtain ⟨b, off, rfl, hbl, hd1, hd2⟩ := hc0
      have hrest : ∀ j u, (mcells rest)[j]? = some u → w3.cell? ⟨b, off + (j + 2), none⟩ = some u := by
        obtain ⟨A', cap', e', _, _, _, hr⟩ := X3
        obtain ⟨b', off', e2, _, h3⟩ := hr (by simp)
        cases e'
        cases e2
        intro j u hj
        exact h3 (j + 2) u hj
      simp only [Nat.zero_mul, Nat.add_zero, List.getElem_cons_zero] at hd1 hd2
      have HX : Hid (x = (x.1, x.2)) := rfl
      have HT : Hid (shM (rest ++ [x])) := turn_sh HSH.out
      have hln : (x :: rest).length = rest.length + 1 := rfl
      generalize hls : x :: rest = ls at *
      clear hls
      generalize hx1 : x.1 = t1 at *
      generalize hx2 : x.2 = t2 at *
      generalize ls.length = m at *
      have i0 : (0 : Int) < (m : Int) := by omega
      have t0 : decide ((m : Int) > 0) = true := by rw [decide_eq_true_eq]; omega
      have i1 : (1 : Int) ≤ (m : Int) := by omega
      have i2 : 1 ≤ m := by omega
      have i3 : (m : Int) ≤ (cap : Int) := by omega
      have hm1 : m - 1 = rest.length := by omega
      obtain ⟨ad, hnew, HA1, HA2⟩ : ∃ ad : Addr, (∀ W, Below w3.heap.size w3 W → ∀ j u, (mcells rest)[j]? = some u → W.cell? (ad.add j) = some u) ∧ Hid (cap = 1 → ad = ⟨b, off, none⟩) ∧ Hid (¬ cap = 1 → ad = ⟨b, off + 2, none⟩) := by
        by_cases hc1 : cap = 1
        · refine ⟨⟨b, off, none⟩, fun W _ j u hj => ?_, fun _ => rfl, fun h => absurd hc1 h⟩
          have : rest = [] := List.eq_nil_of_length_eq_zero (by omega)
          subst this
          simp [mcells] at hj
        · refine ⟨⟨b, off + 2, none⟩, fun W hW j u hj => ?_, fun h => absurd h hc1, fun _ => rfl⟩
          have h1 := (hW.cell (p := ⟨b, off + (j + 2), none⟩) hbl).trans (hrest j u hj)
          have h2 : (Addr.mk b (off + 2) none).add j = ⟨b, off + (j + 2), none⟩ := by
            unfold Addr.add; split
            · next h => subst h; rfl
            · simp; omega
          rw [h2]; exact h1
      have HN := Lib.hid hnew
      clear hnew hrest
      have HLN := Lib.hid hln
      clear hln
      rcases Bool.eq_false_or_eq_true (isP t1) with hp1 | hp1
      · go_wp2_with (go_at_call 52; refine (l1Place_c _ _).mono ?_; rintro e w' ⟨rfl, rfl⟩; rw [hp1])
        refine wp_region_held_drew (S := fun W => Below w3.heap.size w3 W) (by kernel_rfl) (Below.refl _ _).drew (fun hHeld => ?_)
        refine wpAnyH_take (i := 0) (oi := _) (v := ?_) rfl (by kernel_rfl) (by kernel_rfl) (by kernel_rfl) (fun _ _ _ h => h) (Or.inl ⟨by rfl, by intro w0 hS; go_simp; rfl⟩) hHeld ?_
        simp only [Act.put, List.getElem_toArray, List.getElem_cons_zero, List.setIfInBounds_toArray, List.set_cons_succ, List.set_cons_zero]
        refine wpAnyH_take (i := 2) (oi := _) (v := ?_) rfl (by kernel_rfl) (by kernel_rfl) (by kernel_rfl) (fun _ _ _ h => h) (Or.inl ⟨by rfl, by intro w0 hS; go_simp; rfl⟩) hHeld ?_
        simp only [Act.put, List.getElem_toArray, List.getElem_cons_succ, List.getElem_cons_zero, List.setIfInBounds_toArray, List.set_cons_succ, List.set_cons_zero]
        refine wpAnyH_take (i := 3) (oi := _) (v := .slice (some ad) rest.length (cap - 1)) rfl (by kernel_rfl) (by kernel_rfl) (by kernel_rfl) (fun _ _ _ h => h) (Or.inl ⟨by rfl, by
          intro w0 hS
          by_cases hc1 : cap = 1
          · rw [HA1.out hc1]
            go_simp
          · rw [HA2.out hc1]
            go_simp⟩) hHeld ?_
        simp only [Act.put, List.getElem_toArray, List.getElem_cons_succ, List.getElem_cons_zero, List.setIfInBounds_toArray, List.set_cons_succ, List.set_cons_zero]
        refine wpAnyH_take (i := 5) (oi := _) (v := ?_) rfl (by kernel_rfl) (by kernel_rfl) (by kernel_rfl) (fun _ _ _ h => h) (Or.inl ⟨by rfl, by intro w0 hS; go_simp; rfl⟩) hHeld ?_
        simp only [Act.put, List.getElem_toArray, List.getElem_cons_succ, List.getElem_cons_zero, List.setIfInBounds_toArray, List.set_cons_succ, List.set_cons_zero]
        refine wpAnyH_take (i := 6) (oi := _) (v := ?_) rfl (by kernel_rfl) (by kernel_rfl) (by kernel_rfl) (fun _ _ _ h => h) (Or.inl ⟨by rfl, by intro w0 hS; go_simp; rfl⟩) hHeld ?_
        simp only [Act.put, List.getElem_toArray, List.getElem_cons_succ, List.getElem_cons_zero, List.setIfInBounds_toArray, List.set_cons_succ, List.set_cons_zero]
        refine wpAnyH_take (i := 7) (oi := _) (v := ?_) rfl (by kernel_rfl) (by kernel_rfl) (by kernel_rfl) (fun _ _ _ h => h) (Or.inl ⟨by rfl, by intro w0 hS; have e1 := (hS.cell (p := ⟨b, off, none⟩) hbl).trans hd1; have e2 := (hS.cell (p := ⟨b, off + 1, none⟩) hbl).trans hd2; go_simp; rfl⟩) hHeld ?_
        simp only [Act.put, List.getElem_toArray, List.getElem_cons_succ, List.getElem_cons_zero, List.setIfInBounds_toArray, List.set_cons_succ, List.set_cons_zero]
        have HTT : Hid (shM (rest ++ [(t1, t2)])) := by rw [← HX.out]; exact HT.out
        refine wpAnyH_ready (rs := [1, 8]) (by kernel_rfl) (by simp) ?_
        refine AllReadyH.cons rfl (fun K hK => ?_) (AllReadyH.cons rfl (fun K hK => ?_) AllReadyH.nil)
        · go_simp
          have oE1 := World.ownsRow_lit (e := 37) (base := w3.heap.size) (size := 2) _ #[] 0 hHeld.size (Nat.zero_le _) rfl
          have hE1 := hHeld.alloc hHeld.size (.cells #[] 37)
          refine hK.out _ _ hE1 (fun _ => ?_)
          clear hK K
          try simp only [Act.put, List.getElem_toArray, List.getElem_cons_succ, List.getElem_cons_zero, List.setIfInBounds_toArray, List.set_cons_succ, List.set_cons_zero]
          refine wpAnyH_ready (rs := [4, 8]) (by kernel_rfl) (by simp) ?_
          refine AllReadyH.cons rfl (fun K hK => ?_) (AllReadyH.cons rfl (fun K hK => ?_) AllReadyH.nil)
          · refine app_rows (.tmp 30) (.tmp 32) rfl w3.heap.size _ [] rest ad (cap - 1) (by rfl) (by rfl) oE1 (HN.out _ hE1) (by simp; omega) hE1.size ?_
            intro v2 W2 oR2 gR2
            have hR2 := hE1.trans (below_grown gR2 hE1.size (fun g e => own_block_ge oE1 g e))
            refine hK.out _ _ hR2 (fun _ => ?_)
            clear hK K
            try simp only [Act.put, List.getElem_toArray, List.getElem_cons_succ, List.getElem_cons_zero, List.setIfInBounds_toArray, List.set_cons_succ, List.set_cons_zero]
            refine wpAnyH_ready (rs := [8]) (by kernel_rfl) (by simp) ?_
            refine AllReadyH.cons rfl (fun K hK => ?_) AllReadyH.nil
            refine slice_mv (.tmp 36) rfl t1 t2 (by rfl) ?_
            have hO3 := hR2.alloc hR2.size (.cells #[.string t1, .string t2] 37)
            refine hK.out _ _ hO3 (fun _ => ?_)
            clear hK K
            try simp only [Act.put, List.getElem_toArray, List.getElem_cons_succ, List.getElem_cons_zero, List.setIfInBounds_toArray, List.set_cons_succ, List.set_cons_zero]
            have oR3 := own_keep oR2 ((Below.refl _ _).alloc (Nat.le_refl _) (.cells #[.string t1, .string t2] 37))
            refine wpAnyH_ready (rs := [9]) (by kernel_rfl) (by simp) ?_
            refine AllReadyH.cons rfl (fun K hK => ?_) AllReadyH.nil
            refine app_rows (.tmp 33) (.tmp 37) rfl w3.heap.size _ rest [(t1, t2)] ⟨W2.heap.size, 0, none⟩ 1 (by rfl) (by rfl) oR3 (two_new W2 (.string t1) (.string t2) 37) (by simp; omega) hO3.size ?_
            intro vL WL oL gL
            have hL := hO3.trans (below_grown gL hO3.size (fun g e => own_block_ge oR3 g e))
            refine hK.out _ _ hL (fun _ => ?_)
            clear hK K
            try simp only [Act.put, List.getElem_toArray, List.getElem_cons_succ, List.getElem_cons_zero, List.setIfInBounds_toArray, List.set_cons_succ, List.set_cons_zero]
            refine wpAnyH_take (i := 10) (oi := _) (v := ?_) rfl (by kernel_rfl) (by kernel_rfl) (by kernel_rfl) (fun _ _ _ h => h) (Or.inl ⟨by rfl, by intro w0 hS; go_simp; rfl⟩) hL ?_
            simp only [Act.put, List.getElem_toArray, List.getElem_cons_succ, List.getElem_cons_zero, List.setIfInBounds_toArray, List.set_cons_succ, List.set_cons_zero]
            refine wpAnyH_take (i := 11) (oi := _) (v := ?_) rfl (by kernel_rfl) (by kernel_rfl) (by kernel_rfl) (fun _ _ _ h => h) (Or.inl ⟨by rfl, by intro w0 hS; go_simp; rfl⟩) hL ?_
            simp only [Act.put, List.getElem_toArray, List.getElem_cons_succ, List.getElem_cons_zero, List.setIfInBounds_toArray, List.set_cons_succ, List.set_cons_zero]
            refine wpAnyH_done (by kernel_rfl) ?_ _
            go_wp2
            go_ret2
            exact ⟨_, _, rfl, ls, _, X3.below hL, Rd.of_own oL, HSH.out, HTT.out, b3.trans (hL.mono (by have := b3.size; omega))⟩
          · refine slice_mv (.tmp 36) rfl t1 t2 (by rfl) ?_
            have hO2 := hE1.alloc hE1.size (.cells #[.string t1, .string t2] 37)
            refine hK.out _ _ hO2 (fun _ => ?_)
            clear hK K
            try simp only [Act.put, List.getElem_toArray, List.getElem_cons_succ, List.getElem_cons_zero, List.setIfInBounds_toArray, List.set_cons_succ, List.set_cons_zero]
            have oE2 := own_keep oE1 ((Below.refl _ _).alloc (Nat.le_refl _) (.cells #[.string t1, .string t2] 37))
            have nE2 := two_new (w3.drew.alloc (.cells #[] 37)) (.string t1) (.string t2) 37
            refine wpAnyH_ready (rs := [4]) (by kernel_rfl) (by simp) ?_
            refine AllReadyH.cons rfl (fun K hK => ?_) AllReadyH.nil
            refine app_rows (.tmp 30) (.tmp 32) rfl w3.heap.size _ [] rest ad (cap - 1) (by rfl) (by rfl) oE2 (HN.out _ hO2) (by simp; omega) hO2.size ?_
            intro v3 W3 oR3 gR3
            have hR3 := hO2.trans (below_grown gR3 hO2.size (fun g e => own_block_ge oE2 g e))
            refine hK.out _ _ hR3 (fun _ => ?_)
            clear hK K
            try simp only [Act.put, List.getElem_toArray, List.getElem_cons_succ, List.getElem_cons_zero, List.setIfInBounds_toArray, List.set_cons_succ, List.set_cons_zero]
            have nE3 := two_grown nE2 gR3 (by simp only [World.size_alloc]; omega) (by intro e; have := Option.some.inj e; simp at this)
            refine wpAnyH_ready (rs := [9]) (by kernel_rfl) (by simp) ?_
            refine AllReadyH.cons rfl (fun K hK => ?_) AllReadyH.nil
            refine app_rows (.tmp 33) (.tmp 37) rfl w3.heap.size _ rest [(t1, t2)] ⟨(w3.drew.alloc (.cells #[] 37)).heap.size, 0, none⟩ 1 (by rfl) (by rfl) oR3 nE3 (by simp; omega) hR3.size ?_
            intro vL WL oL gL
            have hL := hR3.trans (below_grown gL hR3.size (fun g e => own_block_ge oR3 g e))
            refine hK.out _ _ hL (fun _ => ?_)
            clear hK K
            try simp only [Act.put, List.getElem_toArray, List.getElem_cons_succ, List.getElem_cons_zero, List.setIfInBounds_toArray, List.set_cons_succ, List.set_cons_zero]
            refine wpAnyH_take (i := 10) (oi := _) (v := ?_) rfl (by kernel_rfl) (by kernel_rfl) (by kernel_rfl) (fun _ _ _ h => h) (Or.inl ⟨by rfl, by intro w0 hS; go_simp; rfl⟩) hL ?_
            simp only [Act.put, List.getElem_toArray, List.getElem_cons_succ, List.getElem_cons_zero, List.setIfInBounds_toArray, List.set_cons_succ, List.set_cons_zero]
            refine wpAnyH_take (i := 11) (oi := _) (v := ?_) rfl (by kernel_rfl) (by kernel_rfl) (by kernel_rfl) (fun _ _ _ h => h) (Or.inl ⟨by rfl, by intro w0 hS; go_simp; rfl⟩) hL ?_
            simp only [Act.put, List.getElem_toArray, List.getElem_cons_succ, List.getElem_cons_zero, List.setIfInBounds_toArray, List.set_cons_succ, List.set_cons_zero]
            refine wpAnyH_done (by kernel_rfl) ?_ _
            go_wp2
            go_ret2
            exact ⟨_, _, rfl, ls, _, X3.below hL, Rd.of_own oL, HSH.out, HTT.out, b3.trans (hL.mono (by have := b3.size; omega))⟩
        · refine slice_mv (.tmp 36) rfl t1 t2 (by rfl) ?_
          have hO1 := hHeld.alloc hHeld.size (.cells #[.string t1, .string t2] 37)
          refine hK.out _ _ hO1 (fun _ => ?_)
          clear hK K
          try simp only [Act.put, List.getElem_toArray, List.getElem_cons_succ, List.getElem_cons_zero, List.setIfInBounds_toArray, List.set_cons_succ, List.set_cons_zero]
          have nE1 := two_new w3.drew (.string t1) (.string t2) 37
          refine wpAnyH_ready (rs := [1]) (by kernel_rfl) (by simp) ?_
          refine AllReadyH.cons rfl (fun K hK => ?_) AllReadyH.nil
          go_simp
          have oE2 := World.ownsRow_lit (e := 37) (base := w3.heap.size) (size := 2) _ #[] 0 hO1.size (Nat.zero_le _) rfl
          rw [World.size_alloc] at oE2
          have hE2 := hO1.alloc hO1.size (.cells #[] 37)
          refine hK.out _ _ hE2 (fun _ => ?_)
          clear hK K
          try simp only [Act.put, List.getElem_toArray, List.getElem_cons_succ, List.getElem_cons_zero, List.setIfInBounds_toArray, List.set_cons_succ, List.set_cons_zero]
          have nE2 := two_grown nE1 (grown_below ((Below.refl _ _).alloc (Nat.le_refl _) (.cells #[] 37)) none) (by simp only [World.size_alloc]; omega) (by intro e; cases e)
          refine wpAnyH_ready (rs := [4]) (by kernel_rfl) (by simp) ?_
          refine AllReadyH.cons rfl (fun K hK => ?_) AllReadyH.nil
          refine app_rows (.tmp 30) (.tmp 32) rfl w3.heap.size _ [] rest ad (cap - 1) (by rfl) (by rfl) oE2 (HN.out _ hE2) (by simp; omega) hE2.size ?_
          intro v3 W3 oR3 gR3
          have hR3 := hE2.trans (below_grown gR3 hE2.size (fun g e => own_block_ge oE2 g e))
          refine hK.out _ _ hR3 (fun _ => ?_)
          clear hK K
          try simp only [Act.put, List.getElem_toArray, List.getElem_cons_succ, List.getElem_cons_zero, List.setIfInBounds_toArray, List.set_cons_succ, List.set_cons_zero]
          have nE3 := two_grown nE2 gR3 (by simp only [World.size_alloc]; omega) (by intro e; have := Option.some.inj e; simp at this)
          refine wpAnyH_ready (rs := [9]) (by kernel_rfl) (by simp) ?_
          refine AllReadyH.cons rfl (fun K hK => ?_) AllReadyH.nil
          refine app_rows (.tmp 33) (.tmp 37) rfl w3.heap.size _ rest [(t1, t2)] ⟨w3.drew.heap.size, 0, none⟩ 1 (by rfl) (by rfl) oR3 nE3 (by simp; omega) hR3.size ?_
          intro vL WL oL gL
          have hL := hR3.trans (below_grown gL hR3.size (fun g e => own_block_ge oR3 g e))
          refine hK.out _ _ hL (fun _ => ?_)
          clear hK K
          try simp only [Act.put, List.getElem_toArray, List.getElem_cons_succ, List.getElem_cons_zero, List.setIfInBounds_toArray, List.set_cons_succ, List.set_cons_zero]
          refine wpAnyH_take (i := 10) (oi := _) (v := ?_) rfl (by kernel_rfl) (by kernel_rfl) (by kernel_rfl) (fun _ _ _ h => h) (Or.inl ⟨by rfl, by intro w0 hS; go_simp; rfl⟩) hL ?_
          simp only [Act.put, List.getElem_toArray, List.getElem_cons_succ, List.getElem_cons_zero, List.setIfInBounds_toArray, List.set_cons_succ, List.set_cons_zero]
          refine wpAnyH_take (i := 11) (oi := _) (v := ?_) rfl (by kernel_rfl) (by kernel_rfl) (by kernel_rfl) (fun _ _ _ h => h) (Or.inl ⟨by rfl, by intro w0 hS; go_simp; rfl⟩) hL ?_
          simp only [Act.put, List.getElem_toArray, List.getElem_cons_succ, List.getElem_cons_zero, List.setIfInBounds_toArray, List.set_cons_succ, List.set_cons_zero]
          refine wpAnyH_done (by kernel_rfl) ?_ _
          go_wp2
          go_ret2
          exact ⟨_, _, rfl, ls, _, X3.below hL, Rd.of_own oL, HSH.out, HTT.out, b3.trans (hL.mono (by have := b3.size; omega))⟩
      · go_wp2_with (go_at_call 52; refine (l1Place_c _ _).mono ?_; rintro e w' ⟨rfl, rfl⟩; rw [hp1])
        refine (HL.out _ (Below.refl _ _) R3).mono ?_
        rintro e w4 ⟨z, ys, rfl, X4, Y4, hys, B4⟩
        have HYS := Lib.hid hys
        clear hys
        go_wp2
        go_ret2
        exact ⟨_, _, rfl, _, ys, X4, Y4, HSH.out, HYS.out, B4⟩
  · go_wp2_with fail
    refine (HL.out _ (Below.refl _ _) R3).mono ?_
    rintro e w4 ⟨z, ys, rfl, X4, Y4, hys, B4⟩
    have HYS := Lib.hid hys
    clear hys
    go_wp2
    go_ret2
    exact ⟨_, _, rfl, xs, ys, X4, Y4, HSH.out, HYS.out, B4⟩
end Go.Proofs.Ytdhhmphnmllbhaa
