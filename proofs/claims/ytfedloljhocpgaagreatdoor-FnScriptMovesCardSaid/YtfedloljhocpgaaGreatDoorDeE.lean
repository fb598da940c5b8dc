import Derived.Test.YtfedloljhocpgaaGreatDoorDeD
namespace Go.Proofs.YtfedloljhocpgaaGreatDoor
open Go.RowKit Go.PM Go.PG

set_option maxRecDepth 100000 in
set_option maxHeartbeats 1600000 in
theorem movesByF_c (A : Option Addr) (n c : Nat) (B : Option Addr) (m d : Nat) (rs out : ByteArray) (ho : out.size ≤ 50000000) (w : World) (f bc : Nat) (hbc : bc < w.heap.size) (hc : w.cell? ⟨bc, 0, none⟩ = some (fnV f)) (he : ∀ xs W, (callFunc f xs).run Tryz.prog W = .ok (.enter f xs) W) (ys : List Mv) (ok : Bool) (hms : msize ys ≤ 1048576)
    (hF : ∀ W, Below w.heap.size w W → Calls Tryz.prog f #[.slice A n c] W fun e w' => ∃ v', e = .returned (.tuple #[v', .bool ok]) ∧ w'.ownsRow W.heap.size 56 2 v' ys.length (mcells ys) ∧ Below W.heap.size W w') :
    Calls Tryz.prog 267 #[deskV (.slice A n c) (.slice B m d) out, .string rs, .pointer (some ⟨bc, 0, none⟩)] w fun e w' => ∃ v', e = .returned (.tuple #[deskV v' (.slice B m d) (sayB out (fmtB ys)), .bool ok]) ∧ RdM w' v' ys ∧ (∀ g, v'.ownBlock = some g → w.heap.size ≤ g) ∧ Below w.heap.size w w' := by
  have HF := Lib.hid hF
  clear hF
  unfold fnV at hc
  go_enter Tryz.func267, Tryz.ntmps267
  go_wp2
  obtain ⟨W3, hW3⟩ : ∃ W3 : World, W3 = (w.alloc (.cells #[.slice A n c, .slice B m d, .string out] 93)).alloc (.cells #[.slice none 0 0, .slice none 0 0, .string ⟨#[]⟩] 93) := ⟨_, rfl⟩
  have K1 : At W3 w.heap.size 93 #[.slice A n c, .slice B m d, .string out] := by rw [hW3]; exact (At.new w _ _).alloc _
  have K2 : At W3 (w.heap.size + 1) 93 #[.slice none 0 0, .slice none 0 0, .string ⟨#[]⟩] := by rw [hW3]; have := At.new (w.alloc (.cells #[.slice A n c, .slice B m d, .string out] 93)) 93 #[.slice none 0 0, .slice none 0 0, .string ⟨#[]⟩]; simpa using this
  have hB3 : Below w.heap.size w W3 := by rw [hW3]; exact ((Below.refl _ _).alloc (Nat.le_refl _) _).alloc (by simp) _
  have hs3 := hB3.size
  have hlt3 := K2.lt
  rw [← hW3]
  clear hW3
  refine wp_region_held_drew (S := fun W => At W w.heap.size 93 #[.slice A n c, .slice B m d, .string out] ∧ W.cell? ⟨bc, 0, none⟩ = some (.func (.func f) #[] #[])) (by kernel_rfl) ⟨K1, (hB3.cell (p := ⟨bc, 0, none⟩) hbc).trans hc⟩ (fun hHeld => ?_)
  refine wpAnyH_take (i := 0) (oi := _) (v := .agg #[.slice A n c, .slice B m d, .string out]) rfl (by kernel_rfl) (by kernel_rfl) (by kernel_rfl) (fun _ _ _ h => h) (yieldsIf_desk rfl (.tmp 3) rfl w.heap.size (.slice A n c) (.slice B m d) (.string out) (by rfl) (fun _ h => h.1)) hHeld ?_
  simp only [Act.put, List.getElem_toArray, List.getElem_cons_succ, List.getElem_cons_zero, List.setIfInBounds_toArray, List.set_cons_succ, List.set_cons_zero]
  refine wpAnyH_take (i := 1) (oi := _) (v := ?_) rfl (by kernel_rfl) (by kernel_rfl) (by kernel_rfl) (fun _ _ _ h => h) (Or.inl ⟨by rfl, by intro w0 h0; have q0 := h0.2; go_simp; rfl⟩) hHeld ?_
  simp only [Act.put, List.getElem_toArray, List.getElem_cons_succ, List.getElem_cons_zero, List.setIfInBounds_toArray, List.set_cons_succ, List.set_cons_zero]
  refine wpAnyH_take (i := 2) (oi := _) (v := ?_) rfl (by kernel_rfl) (by kernel_rfl) (by kernel_rfl) (fun _ _ _ h => h) (Or.inl ⟨by rfl, by intro w0 _; go_simp; rfl⟩) hHeld ?_
  simp only [Act.put, List.getElem_toArray, List.getElem_cons_succ, List.getElem_cons_zero, List.setIfInBounds_toArray, List.set_cons_succ, List.set_cons_zero]
  refine wpAnyH_take (i := 3) (oi := _) (v := ?_) rfl (by kernel_rfl) (by kernel_rfl) (by kernel_rfl) (fun _ _ _ h => h) (Or.inl ⟨by rfl, by intro w0 h0; have q0 := h0.1.cell 0; simp at q0; go_simp; rfl⟩) hHeld ?_
  simp only [Act.put, List.getElem_toArray, List.getElem_cons_succ, List.getElem_cons_zero, List.setIfInBounds_toArray, List.set_cons_succ, List.set_cons_zero]
  refine wpAnyH_ready (rs := [4]) (by kernel_rfl) (by simp) ?_
  refine AllReadyH.cons rfl (fun K hK => ?_) AllReadyH.nil
  go_simp
  refine (HF.out _ (hB3.trans ((Below.refl _ _).drew))).mono ?_
  rintro e W4 ⟨v', rfl, ho4, hb4⟩
  replace hb4 : Below W3.heap.size W3 W4 := (Below.refl _ _).drew.trans hb4
  have m1 := K1.keep hb4
  have m2 := K2.keep hb4
  have hB4 := hB3.trans (hb4.mono hs3)
  have hs4 := hB4.size
  have hge := own_block_ge ho4
  have R4 : RdM W4 v' ys := Rd.of_own ho4
  obtain ⟨A4, n4, c4, rfl⟩ : ∃ A n c, v' = .slice A n c := by obtain ⟨A, c, e, _⟩ := R4; exact ⟨A, _, c, e⟩
  clear ho4
  have M1 : (fun W => At W w.heap.size 93 #[.slice A n c, .slice B m d, .string out] ∧ W.cell? ⟨bc, 0, none⟩ = some (.func (.func f) #[] #[])) W4 := ⟨m1, (hB4.cell (p := ⟨bc, 0, none⟩) hbc).trans hc⟩
  clear K1 K2 hB3 hs3 hb4
  refine hK.out _ _ M1 (fun hHeld2 => ?_)
  clear hK K hHeld
  try simp only [Act.put, List.getElem_toArray, List.getElem_cons_succ, List.getElem_cons_zero, List.setIfInBounds_toArray, List.set_cons_succ, List.set_cons_zero]
  refine wpAnyH_take (i := 5) (oi := _) (v := ?_) rfl (by kernel_rfl) (by kernel_rfl) (by kernel_rfl) (fun _ _ _ h => h) (Or.inl ⟨by rfl, by intro w0 _; go_simp; rfl⟩) M1 ?_
  simp only [Act.put, List.getElem_toArray, List.getElem_cons_succ, List.getElem_cons_zero, List.setIfInBounds_toArray, List.set_cons_succ, List.set_cons_zero]
  refine wpAnyH_take (i := 6) (oi := _) (v := ?_) rfl (by kernel_rfl) (by kernel_rfl) (by kernel_rfl) (fun _ _ _ h => h) (Or.inl ⟨by rfl, by intro w0 _; go_simp; rfl⟩) M1 ?_
  simp only [Act.put, List.getElem_toArray, List.getElem_cons_succ, List.getElem_cons_zero, List.setIfInBounds_toArray, List.set_cons_succ, List.set_cons_zero]
  refine wpAnyH_ready (rs := [7]) (by kernel_rfl) (by simp) ?_
  refine AllReadyH.cons rfl (fun K hK => ?_) AllReadyH.nil
  go_simp
  go_at_call 192
  refine (withMoves_c A n c B m d _ ys out ok ho hms W4 R4).mono ?_
  rintro e W5 ⟨rfl, hb5⟩
  have n1 := m1.keep hb5
  have n2 := m2.keep hb5
  have hB5 := hB4.trans (hb5.mono hs4)
  have hs5 := hB5.size
  have R5 := R4.below hb5
  have N1 : (fun W => At W w.heap.size 93 #[.slice A n c, .slice B m d, .string out] ∧ W.cell? ⟨bc, 0, none⟩ = some (.func (.func f) #[] #[])) W5 := ⟨n1, (hB5.cell (p := ⟨bc, 0, none⟩) hbc).trans hc⟩
  clear m1 m2 hB4 hs4 hb5
  refine hK.out _ _ N1 (fun hHeld2 => ?_)
  clear hK K M1
  try simp only [Act.put, List.getElem_toArray, List.getElem_cons_succ, List.getElem_cons_zero, List.setIfInBounds_toArray, List.set_cons_succ, List.set_cons_zero]
  refine wpAnyH_take (i := 8) (oi := _) (v := ?_) rfl (by kernel_rfl) (by kernel_rfl) (by kernel_rfl) (fun _ _ _ h => h) (Or.inl ⟨by rfl, by intro w0 _; go_simp; rfl⟩) N1 ?_
  simp only [Act.put, List.getElem_toArray, List.getElem_cons_succ, List.getElem_cons_zero, List.setIfInBounds_toArray, List.set_cons_succ, List.set_cons_zero]
  refine wpAnyH_take (i := 9) (oi := _) (v := ?_) rfl (by kernel_rfl) (by kernel_rfl) (by kernel_rfl) (fun _ _ _ h => h) (Or.inl ⟨by rfl, by intro w0 _; go_simp; rfl⟩) N1 ?_
  simp only [Act.put, List.getElem_toArray, List.getElem_cons_succ, List.getElem_cons_zero, List.setIfInBounds_toArray, List.set_cons_succ, List.set_cons_zero]
  refine wpAnyH_ready (rs := [10]) (by kernel_rfl) (by simp) ?_
  refine AllReadyH.cons rfl (fun K hK => ?_) AllReadyH.nil
  rw [if_pos (by rfl)]
  refine wp_store_row 93 (.tmp 5) (.tmp 15) rfl (w.heap.size + 1) #[.slice A4 n4 c4, .slice B m d, .string (sayB out (fmtB ys))] (by rfl) (by rfl) 93 _ n2 (by kernel_rfl) rfl (desk_all _ _ _ _ _ _ _) ?_
  have hg6 := grown_setRow W5 (w.heap.size + 1) #[.slice A4 n4 c4, .slice B m d, .string (sayB out (fmtB ys))]
  have hA6 := n2.setRow #[.slice A4 n4 c4, .slice B m d, .string (sayB out (fmtB ys))]
  have p1 := n1.grown hg6 (fun e => by have := Option.some.inj e; omega)
  have hB6 := hB5.trans (below_grown hg6 (B := w.heap.size) hs5 (fun g e => by cases e; omega))
  have R6 : RdM _ _ ys := Rd.grown R5 hg6 (.inl (fun e => by have := hge _ e; simp at this; omega))
  have P1 : (fun W => At W w.heap.size 93 #[.slice A n c, .slice B m d, .string out] ∧ W.cell? ⟨bc, 0, none⟩ = some (.func (.func f) #[] #[])) (W5.setRow (w.heap.size + 1) #[.slice A4 n4 c4, .slice B m d, .string (sayB out (fmtB ys))]) := ⟨p1, (hB6.cell (p := ⟨bc, 0, none⟩) hbc).trans hc⟩
  refine hK.out _ _ P1 (fun hHeld3 => ?_)
  clear hK K
  try simp only [Act.put, List.getElem_toArray, List.getElem_cons_succ, List.getElem_cons_zero, List.setIfInBounds_toArray, List.set_cons_succ, List.set_cons_zero]
  refine wpAnyH_take (i := 11) (oi := _) (v := ?_) rfl (by kernel_rfl) (by kernel_rfl) (by kernel_rfl) (fun _ _ _ h => h) (Or.inl ⟨by rfl, by intro w0 _; go_simp; rfl⟩) P1 ?_
  simp only [Act.put, List.getElem_toArray, List.getElem_cons_succ, List.getElem_cons_zero, List.setIfInBounds_toArray, List.set_cons_succ, List.set_cons_zero]
  refine wpAnyH_done (by kernel_rfl) ?_ _
  go_wp2
  refine bodyPost_ret (v := .tuple #[deskV (.slice A4 n4 c4) (.slice B m d) (sayB out (fmtB ys)), .bool ok]) (results_desk2 _ 5 6 Tryz.results267 _ (w.heap.size + 1) _ _ _ _ hA6 _ rfl rfl) rfl ⟨_, rfl, R6, fun g hg => by have := hge g hg; simp at this; omega, hB6⟩
set_option maxRecDepth 100000 in
set_option maxHeartbeats 1600000 in
theorem stepsByF_c (A : Option Addr) (n c : Nat) (B : Option Addr) (m d : Nat) (rs out : ByteArray) (ho : out.size ≤ 50000000) (w : World) (f bc : Nat) (hbc : bc < w.heap.size) (hc : w.cell? ⟨bc, 0, none⟩ = some (fnV f)) (he : ∀ xs W, (callFunc f xs).run Tryz.prog W = .ok (.enter f xs) W) (ys : List St) (ok : Bool) (hsz : (sfmtB ys).size ≤ 50000000) (hG : Sg w)
    (hF : ∀ W, Below w.heap.size w W → Calls Tryz.prog f #[.slice A n c] W fun e w' => ∃ v', e = .returned (.tuple #[v', .bool ok]) ∧ w'.ownsRow W.heap.size 58 3 v' ys.length (scells ys) ∧ Below W.heap.size W w') :
    Calls Tryz.prog 268 #[deskV (.slice A n c) (.slice B m d) out, .string rs, .pointer (some ⟨bc, 0, none⟩)] w fun e w' => ∃ v', e = .returned (.tuple #[deskV (.slice A n c) v' (sayB out (sfmtB ys)), .bool ok]) ∧ RdS w' v' ys ∧ (∀ g, v'.ownBlock = some g → w.heap.size ≤ g) ∧ Below w.heap.size w w' := by
  have HF := Lib.hid hF
  clear hF
  unfold fnV at hc
  go_enter Tryz.func268, Tryz.ntmps268
  go_wp2
  obtain ⟨W3, hW3⟩ : ∃ W3 : World, W3 = (w.alloc (.cells #[.slice A n c, .slice B m d, .string out] 93)).alloc (.cells #[.slice none 0 0, .slice none 0 0, .string ⟨#[]⟩] 93) := ⟨_, rfl⟩
  have K1 : At W3 w.heap.size 93 #[.slice A n c, .slice B m d, .string out] := by rw [hW3]; exact (At.new w _ _).alloc _
  have K2 : At W3 (w.heap.size + 1) 93 #[.slice none 0 0, .slice none 0 0, .string ⟨#[]⟩] := by rw [hW3]; have := At.new (w.alloc (.cells #[.slice A n c, .slice B m d, .string out] 93)) 93 #[.slice none 0 0, .slice none 0 0, .string ⟨#[]⟩]; simpa using this
  have hB3 : Below w.heap.size w W3 := by rw [hW3]; exact ((Below.refl _ _).alloc (Nat.le_refl _) _).alloc (by simp) _
  have hs3 := hB3.size
  have hlt3 := K2.lt
  rw [← hW3]
  clear hW3
  refine wp_region_held_drew (S := fun W => At W w.heap.size 93 #[.slice A n c, .slice B m d, .string out] ∧ W.cell? ⟨bc, 0, none⟩ = some (.func (.func f) #[] #[])) (by kernel_rfl) ⟨K1, (hB3.cell (p := ⟨bc, 0, none⟩) hbc).trans hc⟩ (fun hHeld => ?_)
  refine wpAnyH_take (i := 0) (oi := _) (v := .agg #[.slice A n c, .slice B m d, .string out]) rfl (by kernel_rfl) (by kernel_rfl) (by kernel_rfl) (fun _ _ _ h => h) (yieldsIf_desk rfl (.tmp 3) rfl w.heap.size (.slice A n c) (.slice B m d) (.string out) (by rfl) (fun _ h => h.1)) hHeld ?_
  simp only [Act.put, List.getElem_toArray, List.getElem_cons_succ, List.getElem_cons_zero, List.setIfInBounds_toArray, List.set_cons_succ, List.set_cons_zero]
  refine wpAnyH_take (i := 1) (oi := _) (v := ?_) rfl (by kernel_rfl) (by kernel_rfl) (by kernel_rfl) (fun _ _ _ h => h) (Or.inl ⟨by rfl, by intro w0 h0; have q0 := h0.2; go_simp; rfl⟩) hHeld ?_
  simp only [Act.put, List.getElem_toArray, List.getElem_cons_succ, List.getElem_cons_zero, List.setIfInBounds_toArray, List.set_cons_succ, List.set_cons_zero]
  refine wpAnyH_take (i := 2) (oi := _) (v := ?_) rfl (by kernel_rfl) (by kernel_rfl) (by kernel_rfl) (fun _ _ _ h => h) (Or.inl ⟨by rfl, by intro w0 _; go_simp; rfl⟩) hHeld ?_
  simp only [Act.put, List.getElem_toArray, List.getElem_cons_succ, List.getElem_cons_zero, List.setIfInBounds_toArray, List.set_cons_succ, List.set_cons_zero]
  refine wpAnyH_take (i := 3) (oi := _) (v := ?_) rfl (by kernel_rfl) (by kernel_rfl) (by kernel_rfl) (fun _ _ _ h => h) (Or.inl ⟨by rfl, by intro w0 h0; have q0 := h0.1.cell 0; simp at q0; go_simp; rfl⟩) hHeld ?_
  simp only [Act.put, List.getElem_toArray, List.getElem_cons_succ, List.getElem_cons_zero, List.setIfInBounds_toArray, List.set_cons_succ, List.set_cons_zero]
  refine wpAnyH_ready (rs := [4]) (by kernel_rfl) (by simp) ?_
  refine AllReadyH.cons rfl (fun K hK => ?_) AllReadyH.nil
  go_simp
  refine (HF.out _ (hB3.trans ((Below.refl _ _).drew))).mono ?_
  rintro e W4 ⟨v', rfl, ho4, hb4⟩
  replace hb4 : Below W3.heap.size W3 W4 := (Below.refl _ _).drew.trans hb4
  have m1 := K1.keep hb4
  have m2 := K2.keep hb4
  have hB4 := hB3.trans (hb4.mono hs3)
  have hs4 := hB4.size
  have hge := own_block_ge ho4
  have R4 : RdS W4 v' ys := Rd.of_own ho4
  obtain ⟨A4, n4, c4, rfl⟩ : ∃ A n c, v' = .slice A n c := by obtain ⟨A, c, e, _⟩ := R4; exact ⟨A, _, c, e⟩
  clear ho4
  have M1 : (fun W => At W w.heap.size 93 #[.slice A n c, .slice B m d, .string out] ∧ W.cell? ⟨bc, 0, none⟩ = some (.func (.func f) #[] #[])) W4 := ⟨m1, (hB4.cell (p := ⟨bc, 0, none⟩) hbc).trans hc⟩
  clear K1 K2 hB3 hs3 hb4
  refine hK.out _ _ M1 (fun hHeld2 => ?_)
  clear hK K hHeld
  try simp only [Act.put, List.getElem_toArray, List.getElem_cons_succ, List.getElem_cons_zero, List.setIfInBounds_toArray, List.set_cons_succ, List.set_cons_zero]
  refine wpAnyH_take (i := 5) (oi := _) (v := ?_) rfl (by kernel_rfl) (by kernel_rfl) (by kernel_rfl) (fun _ _ _ h => h) (Or.inl ⟨by rfl, by intro w0 _; go_simp; rfl⟩) M1 ?_
  simp only [Act.put, List.getElem_toArray, List.getElem_cons_succ, List.getElem_cons_zero, List.setIfInBounds_toArray, List.set_cons_succ, List.set_cons_zero]
  refine wpAnyH_take (i := 6) (oi := _) (v := ?_) rfl (by kernel_rfl) (by kernel_rfl) (by kernel_rfl) (fun _ _ _ h => h) (Or.inl ⟨by rfl, by intro w0 _; go_simp; rfl⟩) M1 ?_
  simp only [Act.put, List.getElem_toArray, List.getElem_cons_succ, List.getElem_cons_zero, List.setIfInBounds_toArray, List.set_cons_succ, List.set_cons_zero]
  refine wpAnyH_ready (rs := [7]) (by kernel_rfl) (by simp) ?_
  refine AllReadyH.cons rfl (fun K hK => ?_) AllReadyH.nil
  go_simp
  go_at_call 197
  refine (withSteps_c A n c B m d _ ys out ok ho hsz W4 R4 (hG.below hB4)).mono ?_
  rintro e W5 ⟨rfl, hb5⟩
  have n1 := m1.keep hb5
  have n2 := m2.keep hb5
  have hB5 := hB4.trans (hb5.mono hs4)
  have hs5 := hB5.size
  have R5 := R4.below hb5
  have N1 : (fun W => At W w.heap.size 93 #[.slice A n c, .slice B m d, .string out] ∧ W.cell? ⟨bc, 0, none⟩ = some (.func (.func f) #[] #[])) W5 := ⟨n1, (hB5.cell (p := ⟨bc, 0, none⟩) hbc).trans hc⟩
  clear m1 m2 hB4 hs4 hb5
  refine hK.out _ _ N1 (fun hHeld2 => ?_)
  clear hK K M1
  try simp only [Act.put, List.getElem_toArray, List.getElem_cons_succ, List.getElem_cons_zero, List.setIfInBounds_toArray, List.set_cons_succ, List.set_cons_zero]
  refine wpAnyH_take (i := 8) (oi := _) (v := ?_) rfl (by kernel_rfl) (by kernel_rfl) (by kernel_rfl) (fun _ _ _ h => h) (Or.inl ⟨by rfl, by intro w0 _; go_simp; rfl⟩) N1 ?_
  simp only [Act.put, List.getElem_toArray, List.getElem_cons_succ, List.getElem_cons_zero, List.setIfInBounds_toArray, List.set_cons_succ, List.set_cons_zero]
  refine wpAnyH_take (i := 9) (oi := _) (v := ?_) rfl (by kernel_rfl) (by kernel_rfl) (by kernel_rfl) (fun _ _ _ h => h) (Or.inl ⟨by rfl, by intro w0 _; go_simp; rfl⟩) N1 ?_
  simp only [Act.put, List.getElem_toArray, List.getElem_cons_succ, List.getElem_cons_zero, List.setIfInBounds_toArray, List.set_cons_succ, List.set_cons_zero]
  refine wpAnyH_ready (rs := [10]) (by kernel_rfl) (by simp) ?_
  refine AllReadyH.cons rfl (fun K hK => ?_) AllReadyH.nil
  rw [if_pos (by rfl)]
  refine wp_store_row 93 (.tmp 5) (.tmp 15) rfl (w.heap.size + 1) #[.slice A n c, .slice A4 n4 c4, .string (sayB out (sfmtB ys))] (by rfl) (by rfl) 93 _ n2 (by kernel_rfl) rfl (desk_all _ _ _ _ _ _ _) ?_
  have hg6 := grown_setRow W5 (w.heap.size + 1) #[.slice A n c, .slice A4 n4 c4, .string (sayB out (sfmtB ys))]
  have hA6 := n2.setRow #[.slice A n c, .slice A4 n4 c4, .string (sayB out (sfmtB ys))]
  have p1 := n1.grown hg6 (fun e => by have := Option.some.inj e; omega)
  have hB6 := hB5.trans (below_grown hg6 (B := w.heap.size) hs5 (fun g e => by cases e; omega))
  have R6 : RdS _ _ ys := Rd.grown R5 hg6 (.inl (fun e => by have := hge _ e; simp at this; omega))
  have P1 : (fun W => At W w.heap.size 93 #[.slice A n c, .slice B m d, .string out] ∧ W.cell? ⟨bc, 0, none⟩ = some (.func (.func f) #[] #[])) (W5.setRow (w.heap.size + 1) #[.slice A n c, .slice A4 n4 c4, .string (sayB out (sfmtB ys))]) := ⟨p1, (hB6.cell (p := ⟨bc, 0, none⟩) hbc).trans hc⟩
  refine hK.out _ _ P1 (fun hHeld3 => ?_)
  clear hK K
  try simp only [Act.put, List.getElem_toArray, List.getElem_cons_succ, List.getElem_cons_zero, List.setIfInBounds_toArray, List.set_cons_succ, List.set_cons_zero]
  refine wpAnyH_take (i := 11) (oi := _) (v := ?_) rfl (by kernel_rfl) (by kernel_rfl) (by kernel_rfl) (fun _ _ _ h => h) (Or.inl ⟨by rfl, by intro w0 _; go_simp; rfl⟩) P1 ?_
  simp only [Act.put, List.getElem_toArray, List.getElem_cons_succ, List.getElem_cons_zero, List.setIfInBounds_toArray, List.set_cons_succ, List.set_cons_zero]
  refine wpAnyH_done (by kernel_rfl) ?_ _
  go_wp2
  refine bodyPost_ret (v := .tuple #[deskV (.slice A n c) (.slice A4 n4 c4) (sayB out (sfmtB ys)), .bool ok]) (results_desk2 _ 5 6 Tryz.results268 _ (w.heap.size + 1) _ _ _ _ hA6 _ rfl rfl) rfl ⟨_, rfl, R6, fun g hg => by have := hge g hg; simp at this; omega, hB6⟩
set_option maxRecDepth 100000 in
set_option maxHeartbeats 1600000 in
theorem textsByF_c (A : Option Addr) (n c : Nat) (B : Option Addr) (m d : Nat) (rs out : ByteArray) (ho : out.size ≤ 50000000) (w : World) (f bc : Nat) (hbc : bc < w.heap.size) (hc : w.cell? ⟨bc, 0, none⟩ = some (fnV f)) (he : ∀ xs W, (callFunc f xs).run Tryz.prog W = .ok (.enter f xs) W) (ys : List ByteArray) (ok : Bool) (hsz : (joinB ys).size ≤ 50000000) (hl : ys.length ≤ 1048576)
    (hF : ∀ W, Below w.heap.size w W → Calls Tryz.prog f #[.slice A n c] W fun e w' => ∃ v', e = .returned (.tuple #[v', .bool ok]) ∧ w'.ownsRow W.heap.size 9 1 v' ys.length (tcells ys) ∧ Below W.heap.size W w') :
    Calls Tryz.prog 277 #[deskV (.slice A n c) (.slice B m d) out, .string rs, .pointer (some ⟨bc, 0, none⟩)] w fun e w' => e = .returned (.tuple #[deskV (.slice A n c) (.slice B m d) (sayB out (joinB ys)), .bool ok]) ∧ Below w.heap.size w w' := by
  have HF := Lib.hid hF
  clear hF
  unfold fnV at hc
  go_enter Tryz.func277, Tryz.ntmps277
  go_wp2
  obtain ⟨W3, hW3⟩ : ∃ W3 : World, W3 = (w.alloc (.cells #[.slice A n c, .slice B m d, .string out] 93)).alloc (.cells #[.slice none 0 0, .slice none 0 0, .string ⟨#[]⟩] 93) := ⟨_, rfl⟩
  have K1 : At W3 w.heap.size 93 #[.slice A n c, .slice B m d, .string out] := by rw [hW3]; exact (At.new w _ _).alloc _
  have K2 : At W3 (w.heap.size + 1) 93 #[.slice none 0 0, .slice none 0 0, .string ⟨#[]⟩] := by rw [hW3]; have := At.new (w.alloc (.cells #[.slice A n c, .slice B m d, .string out] 93)) 93 #[.slice none 0 0, .slice none 0 0, .string ⟨#[]⟩]; simpa using this
  have hB3 : Below w.heap.size w W3 := by rw [hW3]; exact ((Below.refl _ _).alloc (Nat.le_refl _) _).alloc (by simp) _
  have hs3 := hB3.size
  have hlt3 := K2.lt
  rw [← hW3]
  clear hW3
  refine wp_region_held_drew (S := fun W => At W w.heap.size 93 #[.slice A n c, .slice B m d, .string out] ∧ W.cell? ⟨bc, 0, none⟩ = some (.func (.func f) #[] #[])) (by kernel_rfl) ⟨K1, (hB3.cell (p := ⟨bc, 0, none⟩) hbc).trans hc⟩ (fun hHeld => ?_)
  refine wpAnyH_take (i := 0) (oi := _) (v := .agg #[.slice A n c, .slice B m d, .string out]) rfl (by kernel_rfl) (by kernel_rfl) (by kernel_rfl) (fun _ _ _ h => h) (yieldsIf_desk rfl (.tmp 3) rfl w.heap.size (.slice A n c) (.slice B m d) (.string out) (by rfl) (fun _ h => h.1)) hHeld ?_
  simp only [Act.put, List.getElem_toArray, List.getElem_cons_succ, List.getElem_cons_zero, List.setIfInBounds_toArray, List.set_cons_succ, List.set_cons_zero]
  refine wpAnyH_take (i := 1) (oi := _) (v := ?_) rfl (by kernel_rfl) (by kernel_rfl) (by kernel_rfl) (fun _ _ _ h => h) (Or.inl ⟨by rfl, by intro w0 h0; have q0 := h0.2; go_simp; rfl⟩) hHeld ?_
  simp only [Act.put, List.getElem_toArray, List.getElem_cons_succ, List.getElem_cons_zero, List.setIfInBounds_toArray, List.set_cons_succ, List.set_cons_zero]
  refine wpAnyH_take (i := 2) (oi := _) (v := ?_) rfl (by kernel_rfl) (by kernel_rfl) (by kernel_rfl) (fun _ _ _ h => h) (Or.inl ⟨by rfl, by intro w0 _; go_simp; rfl⟩) hHeld ?_
  simp only [Act.put, List.getElem_toArray, List.getElem_cons_succ, List.getElem_cons_zero, List.setIfInBounds_toArray, List.set_cons_succ, List.set_cons_zero]
  refine wpAnyH_take (i := 3) (oi := _) (v := ?_) rfl (by kernel_rfl) (by kernel_rfl) (by kernel_rfl) (fun _ _ _ h => h) (Or.inl ⟨by rfl, by intro w0 h0; have q0 := h0.1.cell 0; simp at q0; go_simp; rfl⟩) hHeld ?_
  simp only [Act.put, List.getElem_toArray, List.getElem_cons_succ, List.getElem_cons_zero, List.setIfInBounds_toArray, List.set_cons_succ, List.set_cons_zero]
  refine wpAnyH_ready (rs := [4]) (by kernel_rfl) (by simp) ?_
  refine AllReadyH.cons rfl (fun K hK => ?_) AllReadyH.nil
  go_simp
  refine (HF.out _ (hB3.trans ((Below.refl _ _).drew))).mono ?_
  rintro e W4 ⟨v', rfl, ho4, hb4⟩
  replace hb4 : Below W3.heap.size W3 W4 := (Below.refl _ _).drew.trans hb4
  have m1 := K1.keep hb4
  have m2 := K2.keep hb4
  have hB4 := hB3.trans (hb4.mono hs3)
  have hs4 := hB4.size
  have hge := own_block_ge ho4
  have R4 : RdT W4 v' ys := Rd.of_own ho4
  obtain ⟨A4, n4, c4, rfl⟩ : ∃ A n c, v' = .slice A n c := by obtain ⟨A, c, e, _⟩ := R4; exact ⟨A, _, c, e⟩
  clear ho4
  have M1 : (fun W => At W w.heap.size 93 #[.slice A n c, .slice B m d, .string out] ∧ W.cell? ⟨bc, 0, none⟩ = some (.func (.func f) #[] #[])) W4 := ⟨m1, (hB4.cell (p := ⟨bc, 0, none⟩) hbc).trans hc⟩
  clear K1 K2 hB3 hs3 hb4
  refine hK.out _ _ M1 (fun hHeld2 => ?_)
  clear hK K hHeld
  try simp only [Act.put, List.getElem_toArray, List.getElem_cons_succ, List.getElem_cons_zero, List.setIfInBounds_toArray, List.set_cons_succ, List.set_cons_zero]
  refine wpAnyH_take (i := 5) (oi := _) (v := ?_) rfl (by kernel_rfl) (by kernel_rfl) (by kernel_rfl) (fun _ _ _ h => h) (Or.inl ⟨by rfl, by intro w0 _; go_simp; rfl⟩) M1 ?_
  simp only [Act.put, List.getElem_toArray, List.getElem_cons_succ, List.getElem_cons_zero, List.setIfInBounds_toArray, List.set_cons_succ, List.set_cons_zero]
  refine wpAnyH_take (i := 6) (oi := _) (v := ?_) rfl (by kernel_rfl) (by kernel_rfl) (by kernel_rfl) (fun _ _ _ h => h) (Or.inl ⟨by rfl, by intro w0 _; go_simp; rfl⟩) M1 ?_
  simp only [Act.put, List.getElem_toArray, List.getElem_cons_succ, List.getElem_cons_zero, List.setIfInBounds_toArray, List.set_cons_succ, List.set_cons_zero]
  refine wpAnyH_ready (rs := [7]) (by kernel_rfl) (by simp) ?_
  refine AllReadyH.cons rfl (fun K hK => ?_) AllReadyH.nil
  go_simp
  go_at_call 278
  refine (withTexts_c A n c B m d _ ys out ok ho hsz hl W4 R4).mono ?_
  rintro e W5 ⟨rfl, hb5⟩
  have n1 := m1.keep hb5
  have n2 := m2.keep hb5
  have hB5 := hB4.trans (hb5.mono hs4)
  have hs5 := hB5.size
  have N1 : (fun W => At W w.heap.size 93 #[.slice A n c, .slice B m d, .string out] ∧ W.cell? ⟨bc, 0, none⟩ = some (.func (.func f) #[] #[])) W5 := ⟨n1, (hB5.cell (p := ⟨bc, 0, none⟩) hbc).trans hc⟩
  clear m1 m2 hB4 hs4 hb5
  refine hK.out _ _ N1 (fun hHeld2 => ?_)
  clear hK K M1
  try simp only [Act.put, List.getElem_toArray, List.getElem_cons_succ, List.getElem_cons_zero, List.setIfInBounds_toArray, List.set_cons_succ, List.set_cons_zero]
  refine wpAnyH_take (i := 8) (oi := _) (v := ?_) rfl (by kernel_rfl) (by kernel_rfl) (by kernel_rfl) (fun _ _ _ h => h) (Or.inl ⟨by rfl, by intro w0 _; go_simp; rfl⟩) N1 ?_
  simp only [Act.put, List.getElem_toArray, List.getElem_cons_succ, List.getElem_cons_zero, List.setIfInBounds_toArray, List.set_cons_succ, List.set_cons_zero]
  refine wpAnyH_take (i := 9) (oi := _) (v := ?_) rfl (by kernel_rfl) (by kernel_rfl) (by kernel_rfl) (fun _ _ _ h => h) (Or.inl ⟨by rfl, by intro w0 _; go_simp; rfl⟩) N1 ?_
  simp only [Act.put, List.getElem_toArray, List.getElem_cons_succ, List.getElem_cons_zero, List.setIfInBounds_toArray, List.set_cons_succ, List.set_cons_zero]
  refine wpAnyH_ready (rs := [10]) (by kernel_rfl) (by simp) ?_
  refine AllReadyH.cons rfl (fun K hK => ?_) AllReadyH.nil
  rw [if_pos (by rfl)]
  refine wp_store_row 93 (.tmp 5) (.tmp 15) rfl (w.heap.size + 1) #[.slice A n c, .slice B m d, .string (sayB out (joinB ys))] (by rfl) (by rfl) 93 _ n2 (by kernel_rfl) rfl (desk_all _ _ _ _ _ _ _) ?_
  have hg6 := grown_setRow W5 (w.heap.size + 1) #[.slice A n c, .slice B m d, .string (sayB out (joinB ys))]
  have hA6 := n2.setRow #[.slice A n c, .slice B m d, .string (sayB out (joinB ys))]
  have p1 := n1.grown hg6 (fun e => by have := Option.some.inj e; omega)
  have hB6 := hB5.trans (below_grown hg6 (B := w.heap.size) hs5 (fun g e => by cases e; omega))
  have P1 : (fun W => At W w.heap.size 93 #[.slice A n c, .slice B m d, .string out] ∧ W.cell? ⟨bc, 0, none⟩ = some (.func (.func f) #[] #[])) (W5.setRow (w.heap.size + 1) #[.slice A n c, .slice B m d, .string (sayB out (joinB ys))]) := ⟨p1, (hB6.cell (p := ⟨bc, 0, none⟩) hbc).trans hc⟩
  refine hK.out _ _ P1 (fun hHeld3 => ?_)
  clear hK K
  try simp only [Act.put, List.getElem_toArray, List.getElem_cons_succ, List.getElem_cons_zero, List.setIfInBounds_toArray, List.set_cons_succ, List.set_cons_zero]
  refine wpAnyH_take (i := 11) (oi := _) (v := ?_) rfl (by kernel_rfl) (by kernel_rfl) (by kernel_rfl) (fun _ _ _ h => h) (Or.inl ⟨by rfl, by intro w0 _; go_simp; rfl⟩) P1 ?_
  simp only [Act.put, List.getElem_toArray, List.getElem_cons_succ, List.getElem_cons_zero, List.setIfInBounds_toArray, List.set_cons_succ, List.set_cons_zero]
  refine wpAnyH_done (by kernel_rfl) ?_ _
  go_wp2
  refine bodyPost_ret (v := .tuple #[deskV (.slice A n c) (.slice B m d) (sayB out (joinB ys)), .bool ok]) (results_desk2 _ 5 6 Tryz.results277 _ (w.heap.size + 1) _ _ _ _ hA6 _ rfl rfl) rfl ⟨rfl, hB6⟩
set_option maxRecDepth 100000 in
set_option maxHeartbeats 1600000 in
theorem aloneEffect_c (A : Option Addr) (n c : Nat) (B : Option Addr) (m d : Nat) (rs out : ByteArray) (ho : out.size ≤ 50000000) (w : World) (ys : List Mv) (ok : Bool) (hms : msize ys ≤ 1048576)
    (hF : ∀ W, Below w.heap.size w W → Calls Tryz.prog 28 #[.slice B m d] W fun e w' => ∃ v', e = .returned (.tuple #[v', .bool ok]) ∧ w'.ownsRow W.heap.size 56 2 v' ys.length (mcells ys) ∧ Below W.heap.size W w') :
    Calls Tryz.prog 193 #[deskV (.slice A n c) (.slice B m d) out, .string rs] w fun e w' => ∃ v', e = .returned (.tuple #[deskV v' (.slice B m d) (sayB out (fmtB ys)), .bool ok]) ∧ RdM w' v' ys ∧ (∀ g, v'.ownBlock = some g → w.heap.size ≤ g) ∧ Below w.heap.size w w' := by
  have HF := Lib.hid hF
  clear hF
  go_enter Tryz.func193, Tryz.ntmps193
  go_wp2
  obtain ⟨W3, hW3⟩ : ∃ W3 : World, W3 = (w.alloc (.cells #[.slice A n c, .slice B m d, .string out] 93)).alloc (.cells #[.slice none 0 0, .slice none 0 0, .string ⟨#[]⟩] 93) := ⟨_, rfl⟩
  have K1 : At W3 w.heap.size 93 #[.slice A n c, .slice B m d, .string out] := by rw [hW3]; exact (At.new w _ _).alloc _
  have K2 : At W3 (w.heap.size + 1) 93 #[.slice none 0 0, .slice none 0 0, .string ⟨#[]⟩] := by rw [hW3]; have := At.new (w.alloc (.cells #[.slice A n c, .slice B m d, .string out] 93)) 93 #[.slice none 0 0, .slice none 0 0, .string ⟨#[]⟩]; simpa using this
  have hB3 : Below w.heap.size w W3 := by rw [hW3]; exact ((Below.refl _ _).alloc (Nat.le_refl _) _).alloc (by simp) _
  have hs3 := hB3.size
  have hlt3 := K2.lt
  rw [← hW3]
  clear hW3
  refine wp_region_held_drew (S := fun W => At W w.heap.size 93 #[.slice A n c, .slice B m d, .string out]) (by kernel_rfl) K1 (fun hHeld => ?_)
  refine wpAnyH_take (i := 0) (oi := _) (v := .agg #[.slice A n c, .slice B m d, .string out]) rfl (by kernel_rfl) (by kernel_rfl) (by kernel_rfl) (fun _ _ _ h => h) (yieldsIf_desk rfl (.tmp 2) rfl w.heap.size (.slice A n c) (.slice B m d) (.string out) (by rfl) (fun _ h => h)) hHeld ?_
  simp only [Act.put, List.getElem_toArray, List.getElem_cons_succ, List.getElem_cons_zero, List.setIfInBounds_toArray, List.set_cons_succ, List.set_cons_zero]
  refine wpAnyH_take (i := 1) (oi := _) (v := ?_) rfl (by kernel_rfl) (by kernel_rfl) (by kernel_rfl) (fun _ _ _ h => h) (Or.inl ⟨by rfl, by intro w0 _; go_simp; rfl⟩) hHeld ?_
  simp only [Act.put, List.getElem_toArray, List.getElem_cons_succ, List.getElem_cons_zero, List.setIfInBounds_toArray, List.set_cons_succ, List.set_cons_zero]
  refine wpAnyH_take (i := 2) (oi := _) (v := ?_) rfl (by kernel_rfl) (by kernel_rfl) (by kernel_rfl) (fun _ _ _ h => h) (Or.inl ⟨by rfl, by intro w0 h0; have q0 := h0.cell 1; simp at q0; go_simp; rfl⟩) hHeld ?_
  simp only [Act.put, List.getElem_toArray, List.getElem_cons_succ, List.getElem_cons_zero, List.setIfInBounds_toArray, List.set_cons_succ, List.set_cons_zero]
  refine wpAnyH_ready (rs := [3]) (by kernel_rfl) (by simp) ?_
  refine AllReadyH.cons rfl (fun K hK => ?_) AllReadyH.nil
  go_simp
  refine (HF.out _ (hB3.trans ((Below.refl _ _).drew))).mono ?_
  rintro e W4 ⟨v', rfl, ho4, hb4⟩
  replace hb4 : Below W3.heap.size W3 W4 := (Below.refl _ _).drew.trans hb4
  have m1 := K1.keep hb4
  have m2 := K2.keep hb4
  have hB4 := hB3.trans (hb4.mono hs3)
  have hs4 := hB4.size
  have hge := own_block_ge ho4
  have R4 : RdM W4 v' ys := Rd.of_own ho4
  obtain ⟨A4, n4, c4, rfl⟩ : ∃ A n c, v' = .slice A n c := by obtain ⟨A, c, e, _⟩ := R4; exact ⟨A, _, c, e⟩
  clear ho4
  have M1 : (fun W => At W w.heap.size 93 #[.slice A n c, .slice B m d, .string out]) W4 := m1
  clear K1 K2 hB3 hs3 hb4
  refine hK.out _ _ M1 (fun hHeld2 => ?_)
  clear hK K hHeld
  try simp only [Act.put, List.getElem_toArray, List.getElem_cons_succ, List.getElem_cons_zero, List.setIfInBounds_toArray, List.set_cons_succ, List.set_cons_zero]
  refine wpAnyH_take (i := 4) (oi := _) (v := ?_) rfl (by kernel_rfl) (by kernel_rfl) (by kernel_rfl) (fun _ _ _ h => h) (Or.inl ⟨by rfl, by intro w0 _; go_simp; rfl⟩) M1 ?_
  simp only [Act.put, List.getElem_toArray, List.getElem_cons_succ, List.getElem_cons_zero, List.setIfInBounds_toArray, List.set_cons_succ, List.set_cons_zero]
  refine wpAnyH_take (i := 5) (oi := _) (v := ?_) rfl (by kernel_rfl) (by kernel_rfl) (by kernel_rfl) (fun _ _ _ h => h) (Or.inl ⟨by rfl, by intro w0 _; go_simp; rfl⟩) M1 ?_
  simp only [Act.put, List.getElem_toArray, List.getElem_cons_succ, List.getElem_cons_zero, List.setIfInBounds_toArray, List.set_cons_succ, List.set_cons_zero]
  refine wpAnyH_ready (rs := [6]) (by kernel_rfl) (by simp) ?_
  refine AllReadyH.cons rfl (fun K hK => ?_) AllReadyH.nil
  go_simp
  go_at_call 192
  refine (withMoves_c A n c B m d _ ys out ok ho hms W4 R4).mono ?_
  rintro e W5 ⟨rfl, hb5⟩
  have n1 := m1.keep hb5
  have n2 := m2.keep hb5
  have hB5 := hB4.trans (hb5.mono hs4)
  have hs5 := hB5.size
  have R5 := R4.below hb5
  have N1 : (fun W => At W w.heap.size 93 #[.slice A n c, .slice B m d, .string out]) W5 := n1
  clear m1 m2 hB4 hs4 hb5
  refine hK.out _ _ N1 (fun hHeld2 => ?_)
  clear hK K M1
  try simp only [Act.put, List.getElem_toArray, List.getElem_cons_succ, List.getElem_cons_zero, List.setIfInBounds_toArray, List.set_cons_succ, List.set_cons_zero]
  refine wpAnyH_take (i := 7) (oi := _) (v := ?_) rfl (by kernel_rfl) (by kernel_rfl) (by kernel_rfl) (fun _ _ _ h => h) (Or.inl ⟨by rfl, by intro w0 _; go_simp; rfl⟩) N1 ?_
  simp only [Act.put, List.getElem_toArray, List.getElem_cons_succ, List.getElem_cons_zero, List.setIfInBounds_toArray, List.set_cons_succ, List.set_cons_zero]
  refine wpAnyH_take (i := 8) (oi := _) (v := ?_) rfl (by kernel_rfl) (by kernel_rfl) (by kernel_rfl) (fun _ _ _ h => h) (Or.inl ⟨by rfl, by intro w0 _; go_simp; rfl⟩) N1 ?_
  simp only [Act.put, List.getElem_toArray, List.getElem_cons_succ, List.getElem_cons_zero, List.setIfInBounds_toArray, List.set_cons_succ, List.set_cons_zero]
  refine wpAnyH_ready (rs := [9]) (by kernel_rfl) (by simp) ?_
  refine AllReadyH.cons rfl (fun K hK => ?_) AllReadyH.nil
  rw [if_pos (by rfl)]
  refine wp_store_row 93 (.tmp 4) (.tmp 13) rfl (w.heap.size + 1) #[.slice A4 n4 c4, .slice B m d, .string (sayB out (fmtB ys))] (by rfl) (by rfl) 93 _ n2 (by kernel_rfl) rfl (desk_all _ _ _ _ _ _ _) ?_
  have hg6 := grown_setRow W5 (w.heap.size + 1) #[.slice A4 n4 c4, .slice B m d, .string (sayB out (fmtB ys))]
  have hA6 := n2.setRow #[.slice A4 n4 c4, .slice B m d, .string (sayB out (fmtB ys))]
  have p1 := n1.grown hg6 (fun e => by have := Option.some.inj e; omega)
  have hB6 := hB5.trans (below_grown hg6 (B := w.heap.size) hs5 (fun g e => by cases e; omega))
  have R6 : RdM _ _ ys := Rd.grown R5 hg6 (.inl (fun e => by have := hge _ e; simp at this; omega))
  have P1 : (fun W => At W w.heap.size 93 #[.slice A n c, .slice B m d, .string out]) (W5.setRow (w.heap.size + 1) #[.slice A4 n4 c4, .slice B m d, .string (sayB out (fmtB ys))]) := p1
  refine hK.out _ _ P1 (fun hHeld3 => ?_)
  clear hK K
  try simp only [Act.put, List.getElem_toArray, List.getElem_cons_succ, List.getElem_cons_zero, List.setIfInBounds_toArray, List.set_cons_succ, List.set_cons_zero]
  refine wpAnyH_take (i := 10) (oi := _) (v := ?_) rfl (by kernel_rfl) (by kernel_rfl) (by kernel_rfl) (fun _ _ _ h => h) (Or.inl ⟨by rfl, by intro w0 _; go_simp; rfl⟩) P1 ?_
  simp only [Act.put, List.getElem_toArray, List.getElem_cons_succ, List.getElem_cons_zero, List.setIfInBounds_toArray, List.set_cons_succ, List.set_cons_zero]
  refine wpAnyH_done (by kernel_rfl) ?_ _
  go_wp2
  refine bodyPost_ret (v := .tuple #[deskV (.slice A4 n4 c4) (.slice B m d) (sayB out (fmtB ys)), .bool ok]) (results_desk2 _ 4 5 Tryz.results193 _ (w.heap.size + 1) _ _ _ _ hA6 _ rfl rfl) rfl ⟨_, rfl, R6, fun g hg => by have := hge g hg; simp at this; omega, hB6⟩
set_option maxRecDepth 100000 in
set_option maxHeartbeats 1600000 in
theorem aloneRight_c (A : Option Addr) (n c : Nat) (B : Option Addr) (m d : Nat) (rs out : ByteArray) (ho : out.size ≤ 50000000) (w : World) (b : Bool)
    (hF : ∀ W, Below w.heap.size w W → Calls Tryz.prog 203 #[.slice B m d, .slice A n c] W fun e w' => e = .returned (.bool b) ∧ Below W.heap.size W w') :
    Calls Tryz.prog 201 #[deskV (.slice A n c) (.slice B m d) out, .string rs] w fun e w' => e = .returned (.tuple #[deskV (.slice A n c) (.slice B m d) (sayB out (truB b)), .bool true]) ∧ Below w.heap.size w w' := by
  have HF := Lib.hid hF
  clear hF
  go_enter Tryz.func201, Tryz.ntmps201
  go_wp2
  obtain ⟨W3, hW3⟩ : ∃ W3 : World, W3 = (w.alloc (.cells #[.slice A n c, .slice B m d, .string out] 93)).alloc (.cells #[.slice none 0 0, .slice none 0 0, .string ⟨#[]⟩] 93) := ⟨_, rfl⟩
  have K1 : At W3 w.heap.size 93 #[.slice A n c, .slice B m d, .string out] := by rw [hW3]; exact (At.new w _ _).alloc _
  have K2 : At W3 (w.heap.size + 1) 93 #[.slice none 0 0, .slice none 0 0, .string ⟨#[]⟩] := by rw [hW3]; have := At.new (w.alloc (.cells #[.slice A n c, .slice B m d, .string out] 93)) 93 #[.slice none 0 0, .slice none 0 0, .string ⟨#[]⟩]; simpa using this
  have hB3 : Below w.heap.size w W3 := by rw [hW3]; exact ((Below.refl _ _).alloc (Nat.le_refl _) _).alloc (by simp) _
  have hs3 := hB3.size
  have hlt3 := K2.lt
  rw [← hW3]
  clear hW3
  refine wp_region_held_drew (S := fun W => At W w.heap.size 93 #[.slice A n c, .slice B m d, .string out]) (by kernel_rfl) K1 (fun hHeld => ?_)
  refine wpAnyH_take (i := 0) (oi := _) (v := .agg #[.slice A n c, .slice B m d, .string out]) rfl (by kernel_rfl) (by kernel_rfl) (by kernel_rfl) (fun _ _ _ h => h) (yieldsIf_desk rfl (.tmp 2) rfl w.heap.size (.slice A n c) (.slice B m d) (.string out) (by rfl) (fun _ h => h)) hHeld ?_
  simp only [Act.put, List.getElem_toArray, List.getElem_cons_succ, List.getElem_cons_zero, List.setIfInBounds_toArray, List.set_cons_succ, List.set_cons_zero]
  refine wpAnyH_take (i := 1) (oi := _) (v := ?_) rfl (by kernel_rfl) (by kernel_rfl) (by kernel_rfl) (fun _ _ _ h => h) (Or.inl ⟨by rfl, by intro w0 _; go_simp; rfl⟩) hHeld ?_
  simp only [Act.put, List.getElem_toArray, List.getElem_cons_succ, List.getElem_cons_zero, List.setIfInBounds_toArray, List.set_cons_succ, List.set_cons_zero]
  refine wpAnyH_take (i := 2) (oi := _) (v := ?_) rfl (by kernel_rfl) (by kernel_rfl) (by kernel_rfl) (fun _ _ _ h => h) (Or.inl ⟨by rfl, by intro w0 h0; have q0 := h0.cell 1; simp at q0; go_simp; rfl⟩) hHeld ?_
  simp only [Act.put, List.getElem_toArray, List.getElem_cons_succ, List.getElem_cons_zero, List.setIfInBounds_toArray, List.set_cons_succ, List.set_cons_zero]
  refine wpAnyH_take (i := 3) (oi := _) (v := ?_) rfl (by kernel_rfl) (by kernel_rfl) (by kernel_rfl) (fun _ _ _ h => h) (Or.inl ⟨by rfl, by intro w0 _; go_simp; rfl⟩) hHeld ?_
  simp only [Act.put, List.getElem_toArray, List.getElem_cons_succ, List.getElem_cons_zero, List.setIfInBounds_toArray, List.set_cons_succ, List.set_cons_zero]
  refine wpAnyH_take (i := 4) (oi := _) (v := ?_) rfl (by kernel_rfl) (by kernel_rfl) (by kernel_rfl) (fun _ _ _ h => h) (Or.inl ⟨by rfl, by intro w0 h0; have q0 := h0.cell 0; simp at q0; go_simp; rfl⟩) hHeld ?_
  simp only [Act.put, List.getElem_toArray, List.getElem_cons_succ, List.getElem_cons_zero, List.setIfInBounds_toArray, List.set_cons_succ, List.set_cons_zero]
  refine wpAnyH_ready (rs := [5]) (by kernel_rfl) (by simp) ?_
  refine AllReadyH.cons rfl (fun K hK => ?_) AllReadyH.nil
  go_simp
  refine (HF.out _ (hB3.trans ((Below.refl _ _).drew))).mono ?_
  rintro e W4 ⟨rfl, hb4⟩
  replace hb4 : Below W3.heap.size W3 W4 := (Below.refl _ _).drew.trans hb4
  have m1 := K1.keep hb4
  have m2 := K2.keep hb4
  have hB4 := hB3.trans (hb4.mono hs3)
  have hs4 := hB4.size
  have M1 : (fun W => At W w.heap.size 93 #[.slice A n c, .slice B m d, .string out]) W4 := m1
  clear K1 K2 hB3 hs3 hb4
  refine hK.out _ _ M1 (fun hHeld2 => ?_)
  clear hK K hHeld
  try simp only [Act.put, List.getElem_toArray, List.getElem_cons_succ, List.getElem_cons_zero, List.setIfInBounds_toArray, List.set_cons_succ, List.set_cons_zero]
  refine wpAnyH_ready (rs := [6]) (by kernel_rfl) (by simp) ?_
  refine AllReadyH.cons rfl (fun K hK => ?_) AllReadyH.nil
  go_simp
  go_at_call 202
  refine (withTruth_c A n c B m d b out ho W4).mono ?_
  rintro e W5 ⟨rfl, hb5⟩
  have n1 := m1.keep hb5
  have n2 := m2.keep hb5
  have hB5 := hB4.trans (hb5.mono hs4)
  have hs5 := hB5.size
  have N1 : (fun W => At W w.heap.size 93 #[.slice A n c, .slice B m d, .string out]) W5 := n1
  clear m1 m2 hB4 hs4 hb5
  refine hK.out _ _ N1 (fun hHeld2 => ?_)
  clear hK K M1
  try simp only [Act.put, List.getElem_toArray, List.getElem_cons_succ, List.getElem_cons_zero, List.setIfInBounds_toArray, List.set_cons_succ, List.set_cons_zero]
  refine wpAnyH_take (i := 7) (oi := _) (v := ?_) rfl (by kernel_rfl) (by kernel_rfl) (by kernel_rfl) (fun _ _ _ h => h) (Or.inl ⟨by rfl, by intro w0 _; go_simp; rfl⟩) N1 ?_
  simp only [Act.put, List.getElem_toArray, List.getElem_cons_succ, List.getElem_cons_zero, List.setIfInBounds_toArray, List.set_cons_succ, List.set_cons_zero]
  refine wpAnyH_take (i := 8) (oi := _) (v := ?_) rfl (by kernel_rfl) (by kernel_rfl) (by kernel_rfl) (fun _ _ _ h => h) (Or.inl ⟨by rfl, by intro w0 _; go_simp; rfl⟩) N1 ?_
  simp only [Act.put, List.getElem_toArray, List.getElem_cons_succ, List.getElem_cons_zero, List.setIfInBounds_toArray, List.set_cons_succ, List.set_cons_zero]
  refine wpAnyH_ready (rs := [9]) (by kernel_rfl) (by simp) ?_
  refine AllReadyH.cons rfl (fun K hK => ?_) AllReadyH.nil
  rw [if_pos (by rfl)]
  refine wp_store_row 93 (.tmp 4) (.tmp 13) rfl (w.heap.size + 1) #[.slice A n c, .slice B m d, .string (sayB out (truB b))] (by rfl) (by rfl) 93 _ n2 (by kernel_rfl) rfl (desk_all _ _ _ _ _ _ _) ?_
  have hg6 := grown_setRow W5 (w.heap.size + 1) #[.slice A n c, .slice B m d, .string (sayB out (truB b))]
  have hA6 := n2.setRow #[.slice A n c, .slice B m d, .string (sayB out (truB b))]
  have p1 := n1.grown hg6 (fun e => by have := Option.some.inj e; omega)
  have hB6 := hB5.trans (below_grown hg6 (B := w.heap.size) hs5 (fun g e => by cases e; omega))
  have P1 : (fun W => At W w.heap.size 93 #[.slice A n c, .slice B m d, .string out]) (W5.setRow (w.heap.size + 1) #[.slice A n c, .slice B m d, .string (sayB out (truB b))]) := p1
  refine hK.out _ _ P1 (fun hHeld3 => ?_)
  clear hK K
  try simp only [Act.put, List.getElem_toArray, List.getElem_cons_succ, List.getElem_cons_zero, List.setIfInBounds_toArray, List.set_cons_succ, List.set_cons_zero]
  refine wpAnyH_take (i := 10) (oi := _) (v := ?_) rfl (by kernel_rfl) (by kernel_rfl) (by kernel_rfl) (fun _ _ _ h => h) (Or.inl ⟨by rfl, by intro w0 _; go_simp; rfl⟩) P1 ?_
  simp only [Act.put, List.getElem_toArray, List.getElem_cons_succ, List.getElem_cons_zero, List.setIfInBounds_toArray, List.set_cons_succ, List.set_cons_zero]
  refine wpAnyH_done (by kernel_rfl) ?_ _
  go_wp2
  refine bodyPost_ret (v := .tuple #[deskV (.slice A n c) (.slice B m d) (sayB out (truB b)), .bool true]) (results_desk2 _ 4 5 Tryz.results201 _ (w.heap.size + 1) _ _ _ _ hA6 _ rfl rfl) rfl ⟨rfl, hB6⟩
set_option maxRecDepth 100000 in
set_option maxHeartbeats 1600000 in
theorem restMoves_c (A : Option Addr) (n c : Nat) (B : Option Addr) (m d : Nat) (rs out : ByteArray) (ho : out.size ≤ 50000000) (w : World) (ys : List Mv) (ok : Bool) (hms : msize ys ≤ 1048576)
    (hF : ∀ W, Below w.heap.size w W → Calls Tryz.prog 227 #[.string rs] W fun e w' => ∃ v', e = .returned (.tuple #[v', .bool ok]) ∧ w'.ownsRow W.heap.size 56 2 v' ys.length (mcells ys) ∧ Below W.heap.size W w') :
    Calls Tryz.prog 226 #[deskV (.slice A n c) (.slice B m d) out, .string rs] w fun e w' => ∃ v', e = .returned (.tuple #[deskV v' (.slice B m d) (sayB out (fmtB ys)), .bool ok]) ∧ RdM w' v' ys ∧ (∀ g, v'.ownBlock = some g → w.heap.size ≤ g) ∧ Below w.heap.size w w' := by
  have HF := Lib.hid hF
  clear hF
  go_enter Tryz.func226, Tryz.ntmps226
  go_wp2
  obtain ⟨W3, hW3⟩ : ∃ W3 : World, W3 = (w.alloc (.cells #[.slice A n c, .slice B m d, .string out] 93)).alloc (.cells #[.slice none 0 0, .slice none 0 0, .string ⟨#[]⟩] 93) := ⟨_, rfl⟩
  have K1 : At W3 w.heap.size 93 #[.slice A n c, .slice B m d, .string out] := by rw [hW3]; exact (At.new w _ _).alloc _
  have K2 : At W3 (w.heap.size + 1) 93 #[.slice none 0 0, .slice none 0 0, .string ⟨#[]⟩] := by rw [hW3]; have := At.new (w.alloc (.cells #[.slice A n c, .slice B m d, .string out] 93)) 93 #[.slice none 0 0, .slice none 0 0, .string ⟨#[]⟩]; simpa using this
  have hB3 : Below w.heap.size w W3 := by rw [hW3]; exact ((Below.refl _ _).alloc (Nat.le_refl _) _).alloc (by simp) _
  have hs3 := hB3.size
  have hlt3 := K2.lt
  rw [← hW3]
  clear hW3
  refine wp_region_held_drew (S := fun W => At W w.heap.size 93 #[.slice A n c, .slice B m d, .string out]) (by kernel_rfl) K1 (fun hHeld => ?_)
  refine wpAnyH_take (i := 0) (oi := _) (v := .agg #[.slice A n c, .slice B m d, .string out]) rfl (by kernel_rfl) (by kernel_rfl) (by kernel_rfl) (fun _ _ _ h => h) (yieldsIf_desk rfl (.tmp 2) rfl w.heap.size (.slice A n c) (.slice B m d) (.string out) (by rfl) (fun _ h => h)) hHeld ?_
  simp only [Act.put, List.getElem_toArray, List.getElem_cons_succ, List.getElem_cons_zero, List.setIfInBounds_toArray, List.set_cons_succ, List.set_cons_zero]
  refine wpAnyH_take (i := 1) (oi := _) (v := ?_) rfl (by kernel_rfl) (by kernel_rfl) (by kernel_rfl) (fun _ _ _ h => h) (Or.inl ⟨by rfl, by intro w0 _; go_simp; rfl⟩) hHeld ?_
  simp only [Act.put, List.getElem_toArray, List.getElem_cons_succ, List.getElem_cons_zero, List.setIfInBounds_toArray, List.set_cons_succ, List.set_cons_zero]
  refine wpAnyH_ready (rs := [2]) (by kernel_rfl) (by simp) ?_
  refine AllReadyH.cons rfl (fun K hK => ?_) AllReadyH.nil
  go_simp
  refine (HF.out _ (hB3.trans ((Below.refl _ _).drew))).mono ?_
  rintro e W4 ⟨v', rfl, ho4, hb4⟩
  replace hb4 : Below W3.heap.size W3 W4 := (Below.refl _ _).drew.trans hb4
  have m1 := K1.keep hb4
  have m2 := K2.keep hb4
  have hB4 := hB3.trans (hb4.mono hs3)
  have hs4 := hB4.size
  have hge := own_block_ge ho4
  have R4 : RdM W4 v' ys := Rd.of_own ho4
  obtain ⟨A4, n4, c4, rfl⟩ : ∃ A n c, v' = .slice A n c := by obtain ⟨A, c, e, _⟩ := R4; exact ⟨A, _, c, e⟩
  clear ho4
  have M1 : (fun W => At W w.heap.size 93 #[.slice A n c, .slice B m d, .string out]) W4 := m1
  clear K1 K2 hB3 hs3 hb4
  refine hK.out _ _ M1 (fun hHeld2 => ?_)
  clear hK K hHeld
  try simp only [Act.put, List.getElem_toArray, List.getElem_cons_succ, List.getElem_cons_zero, List.setIfInBounds_toArray, List.set_cons_succ, List.set_cons_zero]
  refine wpAnyH_take (i := 3) (oi := _) (v := ?_) rfl (by kernel_rfl) (by kernel_rfl) (by kernel_rfl) (fun _ _ _ h => h) (Or.inl ⟨by rfl, by intro w0 _; go_simp; rfl⟩) M1 ?_
  simp only [Act.put, List.getElem_toArray, List.getElem_cons_succ, List.getElem_cons_zero, List.setIfInBounds_toArray, List.set_cons_succ, List.set_cons_zero]
  refine wpAnyH_take (i := 4) (oi := _) (v := ?_) rfl (by kernel_rfl) (by kernel_rfl) (by kernel_rfl) (fun _ _ _ h => h) (Or.inl ⟨by rfl, by intro w0 _; go_simp; rfl⟩) M1 ?_
  simp only [Act.put, List.getElem_toArray, List.getElem_cons_succ, List.getElem_cons_zero, List.setIfInBounds_toArray, List.set_cons_succ, List.set_cons_zero]
  refine wpAnyH_ready (rs := [5]) (by kernel_rfl) (by simp) ?_
  refine AllReadyH.cons rfl (fun K hK => ?_) AllReadyH.nil
  go_simp
  go_at_call 192
  refine (withMoves_c A n c B m d _ ys out ok ho hms W4 R4).mono ?_
  rintro e W5 ⟨rfl, hb5⟩
  have n1 := m1.keep hb5
  have n2 := m2.keep hb5
  have hB5 := hB4.trans (hb5.mono hs4)
  have hs5 := hB5.size
  have R5 := R4.below hb5
  have N1 : (fun W => At W w.heap.size 93 #[.slice A n c, .slice B m d, .string out]) W5 := n1
  clear m1 m2 hB4 hs4 hb5
  refine hK.out _ _ N1 (fun hHeld2 => ?_)
  clear hK K M1
  try simp only [Act.put, List.getElem_toArray, List.getElem_cons_succ, List.getElem_cons_zero, List.setIfInBounds_toArray, List.set_cons_succ, List.set_cons_zero]
  refine wpAnyH_take (i := 6) (oi := _) (v := ?_) rfl (by kernel_rfl) (by kernel_rfl) (by kernel_rfl) (fun _ _ _ h => h) (Or.inl ⟨by rfl, by intro w0 _; go_simp; rfl⟩) N1 ?_
  simp only [Act.put, List.getElem_toArray, List.getElem_cons_succ, List.getElem_cons_zero, List.setIfInBounds_toArray, List.set_cons_succ, List.set_cons_zero]
  refine wpAnyH_take (i := 7) (oi := _) (v := ?_) rfl (by kernel_rfl) (by kernel_rfl) (by kernel_rfl) (fun _ _ _ h => h) (Or.inl ⟨by rfl, by intro w0 _; go_simp; rfl⟩) N1 ?_
  simp only [Act.put, List.getElem_toArray, List.getElem_cons_succ, List.getElem_cons_zero, List.setIfInBounds_toArray, List.set_cons_succ, List.set_cons_zero]
  refine wpAnyH_ready (rs := [8]) (by kernel_rfl) (by simp) ?_
  refine AllReadyH.cons rfl (fun K hK => ?_) AllReadyH.nil
  rw [if_pos (by rfl)]
  refine wp_store_row 93 (.tmp 4) (.tmp 12) rfl (w.heap.size + 1) #[.slice A4 n4 c4, .slice B m d, .string (sayB out (fmtB ys))] (by rfl) (by rfl) 93 _ n2 (by kernel_rfl) rfl (desk_all _ _ _ _ _ _ _) ?_
  have hg6 := grown_setRow W5 (w.heap.size + 1) #[.slice A4 n4 c4, .slice B m d, .string (sayB out (fmtB ys))]
  have hA6 := n2.setRow #[.slice A4 n4 c4, .slice B m d, .string (sayB out (fmtB ys))]
  have p1 := n1.grown hg6 (fun e => by have := Option.some.inj e; omega)
  have hB6 := hB5.trans (below_grown hg6 (B := w.heap.size) hs5 (fun g e => by cases e; omega))
  have R6 : RdM _ _ ys := Rd.grown R5 hg6 (.inl (fun e => by have := hge _ e; simp at this; omega))
  have P1 : (fun W => At W w.heap.size 93 #[.slice A n c, .slice B m d, .string out]) (W5.setRow (w.heap.size + 1) #[.slice A4 n4 c4, .slice B m d, .string (sayB out (fmtB ys))]) := p1
  refine hK.out _ _ P1 (fun hHeld3 => ?_)
  clear hK K
  try simp only [Act.put, List.getElem_toArray, List.getElem_cons_succ, List.getElem_cons_zero, List.setIfInBounds_toArray, List.set_cons_succ, List.set_cons_zero]
  refine wpAnyH_take (i := 9) (oi := _) (v := ?_) rfl (by kernel_rfl) (by kernel_rfl) (by kernel_rfl) (fun _ _ _ h => h) (Or.inl ⟨by rfl, by intro w0 _; go_simp; rfl⟩) P1 ?_
  simp only [Act.put, List.getElem_toArray, List.getElem_cons_succ, List.getElem_cons_zero, List.setIfInBounds_toArray, List.set_cons_succ, List.set_cons_zero]
  refine wpAnyH_done (by kernel_rfl) ?_ _
  go_wp2
  refine bodyPost_ret (v := .tuple #[deskV (.slice A4 n4 c4) (.slice B m d) (sayB out (fmtB ys)), .bool ok]) (results_desk2 _ 4 5 Tryz.results226 _ (w.heap.size + 1) _ _ _ _ hA6 _ rfl rfl) rfl ⟨_, rfl, R6, fun g hg => by have := hge g hg; simp at this; omega, hB6⟩
end Go.Proofs.YtfedloljhocpgaaGreatDoor

