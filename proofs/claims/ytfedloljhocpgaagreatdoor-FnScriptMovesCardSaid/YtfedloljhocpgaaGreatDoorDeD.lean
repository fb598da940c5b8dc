import Derived.Test.YtfedloljhocpgaaGreatDoorDeC
import Derived.Test.YtfedloljhocpgaaGreatDoorFmtS
import Derived.Test.YtfedloljhocpgaaGreatDoorNuI
import Derived.Test.YtfedloljhocpgaaGreatDoorMarkT
namespace Go.PG
open Go.RowKit Go.PM
def joinB (ts : List ByteArray) : ByteArray := ⟨(Lib.join (ts.map (·.data.toList)) [32]).toArray⟩
def truB (b : Bool) : ByteArray := if b then ⟨#[116, 114, 117, 101]⟩ else ⟨#[102, 97, 108, 115, 101]⟩
theorem numB_size (ns : List Int) (h : ∀ n ∈ ns, i64ok n) : (numB ns).size ≤ 22 * ns.length + 1 := by
  have hl := numL_len ns h
  unfold numB
  split
  · show 1 ≤ _; omega
  · show (numL ns).toArray.size ≤ _
    simp; omega
end Go.PG
namespace Go.Proofs.YtfedloljhocpgaaGreatDoor
open Go.RowKit Go.PM Go.PG

set_option maxRecDepth 100000 in
set_option maxHeartbeats 1600000 in
theorem withSteps_c (A0 : Option Addr) (n0 c0 : Nat) (B0 : Option Addr) (m0 d0 : Nat) (lv : Value) (xs : List St) (out : ByteArray) (ok : Bool) (ho : out.size ≤ 50000000) (hf : (sfmtB xs).size ≤ 50000000) (w : World) (hx : RdS w lv xs) (hG : Sg w) :
    Calls Tryz.prog 197 #[deskV (.slice A0 n0 c0) (.slice B0 m0 d0) out, lv, .bool ok] w fun e w' => e = .returned (.tuple #[deskV (.slice A0 n0 c0) lv (sayB out (sfmtB xs)), .bool ok]) ∧ Below w.heap.size w w' := by
  have hF : ∀ W, Below w.heap.size w W → Calls Tryz.prog 16 #[lv] W fun e w' => e = .returned (.string (sfmtB xs)) ∧ Below W.heap.size W w' := fun W hW => imFormatSequence_c xs lv W (hx.below hW) (hG.below hW)
  have HF := Lib.hid hF
  obtain ⟨B, m, d, rfl⟩ : ∃ A n c, lv = .slice A n c := by obtain ⟨A, c, e, _⟩ := hx; exact ⟨A, _, c, e⟩
  have HS := Lib.hid (fun W => say_c A0 B n0 c0 m d out (sfmtB xs) (by omega) (by omega) W)
  clear hx hF
  generalize sfmtB xs = t at *
  go_enter Tryz.func197, Tryz.ntmps197
  go_wp2
  obtain ⟨W3, hW3⟩ : ∃ W3 : World, W3 = (w.alloc (.cells #[.slice A0 n0 c0, .slice B m d, .string out] 93)).alloc (.cells #[.slice none 0 0, .slice none 0 0, .string ⟨#[]⟩] 93) := ⟨_, rfl⟩
  have K1 : At W3 w.heap.size 93 #[.slice A0 n0 c0, .slice B m d, .string out] := by rw [hW3]; exact (At.new w _ _).alloc _
  have K2 : At W3 (w.heap.size + 1) 93 #[.slice none 0 0, .slice none 0 0, .string ⟨#[]⟩] := by rw [hW3]; have := At.new (w.alloc (.cells #[.slice A0 n0 c0, .slice B m d, .string out] 93)) 93 #[.slice none 0 0, .slice none 0 0, .string ⟨#[]⟩]; simpa using this
  have hB3 : Below w.heap.size w W3 := by rw [hW3]; exact ((Below.refl _ _).alloc (Nat.le_refl _) _).alloc (by simp) _
  have hs3 := hB3.size
  rw [← hW3]
  clear hW3
  refine wp_region_held_drew (S := fun W => At W w.heap.size 93 #[.slice A0 n0 c0, .slice B m d, .string out]) (by kernel_rfl) K1 (fun hHeld => ?_)
  refine wpAnyH_take (i := 0) (oi := _) (v := .agg #[.slice A0 n0 c0, .slice B m d, .string out]) rfl (by kernel_rfl) (by kernel_rfl) (by kernel_rfl) (fun _ _ _ h => h) (yieldsIf_desk rfl (.tmp 3) rfl w.heap.size (.slice A0 n0 c0) (.slice B m d) (.string out) (by rfl) (fun _ h => h)) hHeld ?_
  simp only [Act.put, List.getElem_toArray, List.getElem_cons_succ, List.getElem_cons_zero, List.setIfInBounds_toArray, List.set_cons_succ, List.set_cons_zero]
  refine wpAnyH_take (i := 1) (oi := _) (v := ?_) rfl (by kernel_rfl) (by kernel_rfl) (by kernel_rfl) (fun _ _ _ h => h) (Or.inl ⟨by rfl, by intro w0 _; go_simp; rfl⟩) hHeld ?_
  simp only [Act.put, List.getElem_toArray, List.getElem_cons_succ, List.getElem_cons_zero, List.setIfInBounds_toArray, List.set_cons_succ, List.set_cons_zero]
  refine wpAnyH_take (i := 4) (oi := _) (v := ?_) rfl (by kernel_rfl) (by kernel_rfl) (by kernel_rfl) (fun _ _ _ h => h) (Or.inl ⟨by rfl, by intro w0 _; go_simp; rfl⟩) hHeld ?_
  simp only [Act.put, List.getElem_toArray, List.getElem_cons_succ, List.getElem_cons_zero, List.setIfInBounds_toArray, List.set_cons_succ, List.set_cons_zero]
  refine wpAnyH_ready (rs := [2]) (by kernel_rfl) (by simp) ?_
  refine AllReadyH.cons rfl (fun K hK => ?_) AllReadyH.nil
  go_simp
  go_at_call 16
  refine (HF.out _ (hB3.trans ((Below.refl _ _).drew))).mono ?_
  rintro e W4 ⟨rfl, hb4⟩
  replace hb4 : Below W3.heap.size W3 W4 := (Below.refl _ _).drew.trans hb4
  have m1 := K1.keep hb4
  have m2 := K2.keep hb4
  have hB4 := hB3.trans (hb4.mono hs3)
  have hs4 := hB4.size
  clear hb4 K1 K2 hB3 hs3
  refine hK.out _ _ m1 (fun hHeld2 => ?_)
  clear hK K hHeld
  try simp only [Act.put, List.getElem_toArray, List.getElem_cons_succ, List.getElem_cons_zero, List.setIfInBounds_toArray, List.set_cons_succ, List.set_cons_zero]
  refine wpAnyH_ready (rs := [3]) (by kernel_rfl) (by simp) ?_
  refine AllReadyH.cons rfl (fun K hK => ?_) AllReadyH.nil
  go_simp
  go_at_call 68
  refine (HS.out _).mono ?_
  rintro e W5 ⟨rfl, hb4⟩
  have n1 := m1.keep hb4
  have n2 := m2.keep hb4
  have hB5 := hB4.trans (hb4.mono hs4)
  have hs5 := hB5.size
  clear hb4  m2 hB4 hs4
  refine hK.out _ _ n1 (fun hHeld2 => ?_)
  clear hK K m1
  try simp only [Act.put, List.getElem_toArray, List.getElem_cons_succ, List.getElem_cons_zero, List.setIfInBounds_toArray, List.set_cons_succ, List.set_cons_zero]
  refine wpAnyH_ready (rs := [5]) (by kernel_rfl) (by simp) ?_
  refine AllReadyH.cons rfl (fun K hK => ?_) AllReadyH.nil
  rw [if_pos (by rfl)]
  refine wp_store_row 93 (.tmp 6) (.tmp 13) rfl (w.heap.size + 1) #[.slice A0 n0 c0, .slice B m d, .string (sayB out t)] (by rfl) (by rfl) 93 _ n2 (by kernel_rfl) rfl (desk_all _ _ _ _ _ _ _) ?_
  have hg6 := grown_setRow W5 (w.heap.size + 1) #[.slice A0 n0 c0, .slice B m d, .string (sayB out t)]
  have hA6 := n2.setRow #[.slice A0 n0 c0, .slice B m d, .string (sayB out t)]
  have p1 := n1.grown hg6 (fun e => by have := Option.some.inj e; omega)
  have hB6 := hB5.trans (below_grown hg6 (B := w.heap.size) hs5 (fun g e => by cases e; omega))
  refine hK.out _ _ p1 (fun hHeld3 => ?_)
  clear hK K
  try simp only [Act.put, List.getElem_toArray, List.getElem_cons_succ, List.getElem_cons_zero, List.setIfInBounds_toArray, List.set_cons_succ, List.set_cons_zero]
  refine wpAnyH_take (i := 6) (oi := _) (v := ?_) rfl (by kernel_rfl) (by kernel_rfl) (by kernel_rfl) (fun _ _ _ h => h) (Or.inl ⟨by rfl, by intro w0 _; go_simp; rfl⟩) p1 ?_
  simp only [Act.put, List.getElem_toArray, List.getElem_cons_succ, List.getElem_cons_zero, List.setIfInBounds_toArray, List.set_cons_succ, List.set_cons_zero]
  refine wpAnyH_done (by kernel_rfl) ?_ _
  go_wp2
  refine bodyPost_ret (v := .tuple #[deskV (.slice A0 n0 c0) (.slice B m d) (sayB out t), .bool ok]) (results_desk2 _ 6 7 Tryz.results197 _ (w.heap.size + 1) _ _ _ _ hA6 _ rfl rfl) rfl ⟨rfl, hB6⟩
theorem strJoin_c (ts : List ByteArray) (v : Value) (w : World) (hx : RdT w v ts) (hz : (joinB ts).size ≤ 50000000) (hl : ts.length ≤ 1048576) :
    Calls Tryz.prog 61 #[v, .string ⟨#[32]⟩] w fun e w' => e = .returned (.string (joinB ts)) ∧ Below w.heap.size w w' := by
  obtain ⟨A, cap, rfl, hn, hc, hcell⟩ := hx.open
  by_cases h0 : ts = []
  · subst h0
    refine (Tryz.strings_Join_none A cap ⟨#[32]⟩ w).mono ?_
    rintro e w' ⟨rfl, rfl⟩
    exact ⟨rfl, Below.refl _ _⟩
  · have hpos : 0 < ts.length := List.length_pos_iff.2 h0
    obtain ⟨b, off, rfl, hbl, _⟩ := hcell 0 hpos
    have hcl : ∀ (j : Nat) x, ts[j]? = some x → w.cell? ⟨b, off + j, none⟩ = some (.string x) := fun j x hj => by
      have hjl := (List.getElem?_eq_some_iff.1 hj).1
      obtain ⟨b', off', e, _, h1⟩ := hcell j hjl
      cases e
      rw [h1]
      rw [List.getElem?_eq_getElem hjl] at hj
      cases hj; rfl
    have := Tryz.strings_Join b off cap ts ⟨#[32]⟩ w hcl hbl (by omega) hc (by
      have h1 : (joinB ts).size = (Lib.join (ts.map (·.data.toList)) [32]).length := by show (Lib.join (ts.map (·.data.toList)) [32]).toArray.size = _; simp
      have h2 : (Lib.join (ts.map (·.data.toList)) (⟨#[32]⟩ : ByteArray).data.toList).length = (joinB ts).size := h1.symm
      omega)
    exact this
set_option maxRecDepth 100000 in
set_option maxHeartbeats 1600000 in
theorem withTexts_c (A : Option Addr) (n c : Nat) (B : Option Addr) (m d : Nat) (lv : Value) (ts : List ByteArray) (out : ByteArray) (ok : Bool) (ho : out.size ≤ 50000000) (hf : (joinB ts).size ≤ 50000000) (hl : ts.length ≤ 1048576) (w : World) (hx : RdT w lv ts) :
    Calls Tryz.prog 278 #[deskV (.slice A n c) (.slice B m d) out, lv, .bool ok] w fun e w' => e = .returned (.tuple #[deskV (.slice A n c) (.slice B m d) (sayB out (joinB ts)), .bool ok]) ∧ Below w.heap.size w w' := by
  have hF : ∀ W, Below w.heap.size w W → Calls Tryz.prog 61 #[lv, .string ⟨#[32]⟩] W fun e w' => e = .returned (.string (joinB ts)) ∧ Below W.heap.size W w' := fun W hW => strJoin_c ts lv W (hx.below hW) hf hl
  have HF := Lib.hid hF
  obtain ⟨A9, n9, c9, rfl⟩ : ∃ A n c, lv = .slice A n c := by obtain ⟨A, c, e, _⟩ := hx; exact ⟨A, _, c, e⟩
  have HS := Lib.hid (fun W => say_c A B n c m d out (joinB ts) (by omega) (by omega) W)
  clear hx hF
  generalize joinB ts = t at *
  go_enter Tryz.func278, Tryz.ntmps278
  go_wp2
  obtain ⟨W3, hW3⟩ : ∃ W3 : World, W3 = (w.alloc (.cells #[.slice A n c, .slice B m d, .string out] 93)).alloc (.cells #[.slice none 0 0, .slice none 0 0, .string ⟨#[]⟩] 93) := ⟨_, rfl⟩
  have K1 : At W3 w.heap.size 93 #[.slice A n c, .slice B m d, .string out] := by rw [hW3]; exact (At.new w _ _).alloc _
  have K2 : At W3 (w.heap.size + 1) 93 #[.slice none 0 0, .slice none 0 0, .string ⟨#[]⟩] := by rw [hW3]; have := At.new (w.alloc (.cells #[.slice A n c, .slice B m d, .string out] 93)) 93 #[.slice none 0 0, .slice none 0 0, .string ⟨#[]⟩]; simpa using this
  have hB3 : Below w.heap.size w W3 := by rw [hW3]; exact ((Below.refl _ _).alloc (Nat.le_refl _) _).alloc (by simp) _
  have hs3 := hB3.size
  rw [← hW3]
  clear hW3
  refine wp_region_held_drew (S := fun W => At W w.heap.size 93 #[.slice A n c, .slice B m d, .string out]) (by kernel_rfl) K1 (fun hHeld => ?_)
  refine wpAnyH_take (i := 0) (oi := _) (v := .agg #[.slice A n c, .slice B m d, .string out]) rfl (by kernel_rfl) (by kernel_rfl) (by kernel_rfl) (fun _ _ _ h => h) (yieldsIf_desk rfl (.tmp 3) rfl w.heap.size (.slice A n c) (.slice B m d) (.string out) (by rfl) (fun _ h => h)) hHeld ?_
  simp only [Act.put, List.getElem_toArray, List.getElem_cons_succ, List.getElem_cons_zero, List.setIfInBounds_toArray, List.set_cons_succ, List.set_cons_zero]
  refine wpAnyH_take (i := 1) (oi := _) (v := ?_) rfl (by kernel_rfl) (by kernel_rfl) (by kernel_rfl) (fun _ _ _ h => h) (Or.inl ⟨by rfl, by intro w0 _; go_simp; rfl⟩) hHeld ?_
  simp only [Act.put, List.getElem_toArray, List.getElem_cons_succ, List.getElem_cons_zero, List.setIfInBounds_toArray, List.set_cons_succ, List.set_cons_zero]
  refine wpAnyH_take (i := 4) (oi := _) (v := ?_) rfl (by kernel_rfl) (by kernel_rfl) (by kernel_rfl) (fun _ _ _ h => h) (Or.inl ⟨by rfl, by intro w0 _; go_simp; rfl⟩) hHeld ?_
  simp only [Act.put, List.getElem_toArray, List.getElem_cons_succ, List.getElem_cons_zero, List.setIfInBounds_toArray, List.set_cons_succ, List.set_cons_zero]
  refine wpAnyH_ready (rs := [2]) (by kernel_rfl) (by simp) ?_
  refine AllReadyH.cons rfl (fun K hK => ?_) AllReadyH.nil
  go_simp
  go_at_call 61
  refine (HF.out _ (hB3.trans ((Below.refl _ _).drew))).mono ?_
  rintro e W4 ⟨rfl, hb4⟩
  replace hb4 : Below W3.heap.size W3 W4 := (Below.refl _ _).drew.trans hb4
  have m1 := K1.keep hb4
  have m2 := K2.keep hb4
  have hB4 := hB3.trans (hb4.mono hs3)
  have hs4 := hB4.size
  clear hb4 K1 K2 hB3 hs3
  refine hK.out _ _ m1 (fun hHeld2 => ?_)
  clear hK K hHeld
  try simp only [Act.put, List.getElem_toArray, List.getElem_cons_succ, List.getElem_cons_zero, List.setIfInBounds_toArray, List.set_cons_succ, List.set_cons_zero]
  refine wpAnyH_ready (rs := [3]) (by kernel_rfl) (by simp) ?_
  refine AllReadyH.cons rfl (fun K hK => ?_) AllReadyH.nil
  go_simp
  go_at_call 68
  refine (HS.out _).mono ?_
  rintro e W5 ⟨rfl, hb4⟩
  have n1 := m1.keep hb4
  have n2 := m2.keep hb4
  have hB5 := hB4.trans (hb4.mono hs4)
  have hs5 := hB5.size
  clear hb4  m2 hB4 hs4
  refine hK.out _ _ n1 (fun hHeld2 => ?_)
  clear hK K m1
  try simp only [Act.put, List.getElem_toArray, List.getElem_cons_succ, List.getElem_cons_zero, List.setIfInBounds_toArray, List.set_cons_succ, List.set_cons_zero]
  refine wpAnyH_ready (rs := [5]) (by kernel_rfl) (by simp) ?_
  refine AllReadyH.cons rfl (fun K hK => ?_) AllReadyH.nil
  rw [if_pos (by rfl)]
  refine wp_store_row 93 (.tmp 6) (.tmp 11) rfl (w.heap.size + 1) #[.slice A n c, .slice B m d, .string (sayB out t)] (by rfl) (by rfl) 93 _ n2 (by kernel_rfl) rfl (desk_all _ _ _ _ _ _ _) ?_
  have hg6 := grown_setRow W5 (w.heap.size + 1) #[.slice A n c, .slice B m d, .string (sayB out t)]
  have hA6 := n2.setRow #[.slice A n c, .slice B m d, .string (sayB out t)]
  have p1 := n1.grown hg6 (fun e => by have := Option.some.inj e; omega)
  have hB6 := hB5.trans (below_grown hg6 (B := w.heap.size) hs5 (fun g e => by cases e; omega))
  refine hK.out _ _ p1 (fun hHeld3 => ?_)
  clear hK K
  try simp only [Act.put, List.getElem_toArray, List.getElem_cons_succ, List.getElem_cons_zero, List.setIfInBounds_toArray, List.set_cons_succ, List.set_cons_zero]
  refine wpAnyH_take (i := 6) (oi := _) (v := ?_) rfl (by kernel_rfl) (by kernel_rfl) (by kernel_rfl) (fun _ _ _ h => h) (Or.inl ⟨by rfl, by intro w0 _; go_simp; rfl⟩) p1 ?_
  simp only [Act.put, List.getElem_toArray, List.getElem_cons_succ, List.getElem_cons_zero, List.setIfInBounds_toArray, List.set_cons_succ, List.set_cons_zero]
  refine wpAnyH_done (by kernel_rfl) ?_ _
  go_wp2
  refine bodyPost_ret (v := .tuple #[deskV (.slice A n c) (.slice B m d) (sayB out t), .bool ok]) (results_desk2 _ 6 7 Tryz.results278 _ (w.heap.size + 1) _ _ _ _ hA6 _ rfl rfl) rfl ⟨rfl, hB6⟩
set_option maxRecDepth 100000 in
set_option maxHeartbeats 1600000 in
theorem withTruth_c (A : Option Addr) (n c : Nat) (B : Option Addr) (m d : Nat) (b : Bool) (out : ByteArray) (ho : out.size ≤ 50000000) (w : World) :
    Calls Tryz.prog 202 #[deskV (.slice A n c) (.slice B m d) out, .bool b] w fun e w' => e = .returned (.tuple #[deskV (.slice A n c) (.slice B m d) (sayB out (truB b)), .bool true]) ∧ Below w.heap.size w w' := by
  have hf : (truB b).size ≤ 5 := by cases b <;> decide
  have HF : Hid (∀ W, Calls Tryz.prog 271 #[.bool b] W fun e w' => e = .returned (.string (truB b)) ∧ Below W.heap.size W w') := fun W => (Tryz.strconv_FormatBool b W).mono fun e w' h => by
    obtain ⟨rfl, rfl⟩ := h
    refine ⟨?_, Below.refl _ _⟩
    cases b <;> rfl
  have HS := Lib.hid (fun W => say_c A B n c m d out (truB b) (by omega) (by omega) W)
  generalize truB b = t at *
  go_enter Tryz.func202, Tryz.ntmps202
  go_wp2
  obtain ⟨W3, hW3⟩ : ∃ W3 : World, W3 = (w.alloc (.cells #[.slice A n c, .slice B m d, .string out] 93)).alloc (.cells #[.slice none 0 0, .slice none 0 0, .string ⟨#[]⟩] 93) := ⟨_, rfl⟩
  have K1 : At W3 w.heap.size 93 #[.slice A n c, .slice B m d, .string out] := by rw [hW3]; exact (At.new w _ _).alloc _
  have K2 : At W3 (w.heap.size + 1) 93 #[.slice none 0 0, .slice none 0 0, .string ⟨#[]⟩] := by rw [hW3]; have := At.new (w.alloc (.cells #[.slice A n c, .slice B m d, .string out] 93)) 93 #[.slice none 0 0, .slice none 0 0, .string ⟨#[]⟩]; simpa using this
  have hB3 : Below w.heap.size w W3 := by rw [hW3]; exact ((Below.refl _ _).alloc (Nat.le_refl _) _).alloc (by simp) _
  have hs3 := hB3.size
  rw [← hW3]
  clear hW3
  refine wp_region_held_drew (S := fun W => At W w.heap.size 93 #[.slice A n c, .slice B m d, .string out]) (by kernel_rfl) K1 (fun hHeld => ?_)
  refine wpAnyH_take (i := 0) (oi := _) (v := .agg #[.slice A n c, .slice B m d, .string out]) rfl (by kernel_rfl) (by kernel_rfl) (by kernel_rfl) (fun _ _ _ h => h) (yieldsIf_desk rfl (.tmp 2) rfl w.heap.size (.slice A n c) (.slice B m d) (.string out) (by rfl) (fun _ h => h)) hHeld ?_
  simp only [Act.put, List.getElem_toArray, List.getElem_cons_succ, List.getElem_cons_zero, List.setIfInBounds_toArray, List.set_cons_succ, List.set_cons_zero]
  refine wpAnyH_take (i := 1) (oi := _) (v := ?_) rfl (by kernel_rfl) (by kernel_rfl) (by kernel_rfl) (fun _ _ _ h => h) (Or.inl ⟨by rfl, by intro w0 _; go_simp; rfl⟩) hHeld ?_
  simp only [Act.put, List.getElem_toArray, List.getElem_cons_succ, List.getElem_cons_zero, List.setIfInBounds_toArray, List.set_cons_succ, List.set_cons_zero]
  refine wpAnyH_ready (rs := [2]) (by kernel_rfl) (by simp) ?_
  refine AllReadyH.cons rfl (fun K hK => ?_) AllReadyH.nil
  go_simp
  go_at_call 271
  refine (HF.out _).mono ?_
  rintro e W4 ⟨rfl, hb4⟩
  replace hb4 : Below W3.heap.size W3 W4 := (Below.refl _ _).drew.trans hb4
  have m1 := K1.keep hb4
  have m2 := K2.keep hb4
  have hB4 := hB3.trans (hb4.mono hs3)
  have hs4 := hB4.size
  clear hb4 K1 K2 hB3 hs3
  refine hK.out _ _ m1 (fun hHeld2 => ?_)
  clear hK K hHeld
  try simp only [Act.put, List.getElem_toArray, List.getElem_cons_succ, List.getElem_cons_zero, List.setIfInBounds_toArray, List.set_cons_succ, List.set_cons_zero]
  refine wpAnyH_ready (rs := [3]) (by kernel_rfl) (by simp) ?_
  refine AllReadyH.cons rfl (fun K hK => ?_) AllReadyH.nil
  go_simp
  go_at_call 68
  refine (HS.out _).mono ?_
  rintro e W5 ⟨rfl, hb4⟩
  have n1 := m1.keep hb4
  have n2 := m2.keep hb4
  have hB5 := hB4.trans (hb4.mono hs4)
  have hs5 := hB5.size
  clear hb4  m2 hB4 hs4
  refine hK.out _ _ n1 (fun hHeld2 => ?_)
  clear hK K m1
  try simp only [Act.put, List.getElem_toArray, List.getElem_cons_succ, List.getElem_cons_zero, List.setIfInBounds_toArray, List.set_cons_succ, List.set_cons_zero]
  refine wpAnyH_ready (rs := [4]) (by kernel_rfl) (by simp) ?_
  refine AllReadyH.cons rfl (fun K hK => ?_) AllReadyH.nil
  rw [if_pos (by rfl)]
  refine wp_store_row 93 (.tmp 4) (.tmp 9) rfl (w.heap.size + 1) #[.slice A n c, .slice B m d, .string (sayB out t)] (by rfl) (by rfl) 93 _ n2 (by kernel_rfl) rfl (desk_all _ _ _ _ _ _ _) ?_
  have hg6 := grown_setRow W5 (w.heap.size + 1) #[.slice A n c, .slice B m d, .string (sayB out t)]
  have hA6 := n2.setRow #[.slice A n c, .slice B m d, .string (sayB out t)]
  have p1 := n1.grown hg6 (fun e => by have := Option.some.inj e; omega)
  have hB6 := hB5.trans (below_grown hg6 (B := w.heap.size) hs5 (fun g e => by cases e; omega))
  refine hK.out _ _ p1 (fun hHeld3 => ?_)
  clear hK K
  try simp only [Act.put, List.getElem_toArray, List.getElem_cons_succ, List.getElem_cons_zero, List.setIfInBounds_toArray, List.set_cons_succ, List.set_cons_zero]
  refine wpAnyH_take (i := 5) (oi := _) (v := ?_) rfl (by kernel_rfl) (by kernel_rfl) (by kernel_rfl) (fun _ _ _ h => h) (Or.inl ⟨by rfl, by intro w0 _; go_simp; rfl⟩) p1 ?_
  simp only [Act.put, List.getElem_toArray, List.getElem_cons_succ, List.getElem_cons_zero, List.setIfInBounds_toArray, List.set_cons_succ, List.set_cons_zero]
  refine wpAnyH_done (by kernel_rfl) ?_ _
  go_wp2
  refine bodyPost_ret (v := .tuple #[deskV (.slice A n c) (.slice B m d) (sayB out t), .bool true]) (results_desk2 _ 4 5 Tryz.results202 _ (w.heap.size + 1) _ _ _ _ hA6 _ rfl rfl) rfl ⟨rfl, hB6⟩
set_option maxRecDepth 100000 in
set_option maxHeartbeats 1600000 in
theorem withNumbers_c (A : Option Addr) (n c : Nat) (B : Option Addr) (m d : Nat) (lv : Value) (x : Int) (ns : List Int) (hz : ∀ k ∈ x :: ns, i64ok k) (hl : ns.length ≤ 100) (out : ByteArray) (ho : out.size ≤ 50000000) (w : World) (hx : RdI w lv (x :: ns)) (hT : Tp w) :
    Calls Tryz.prog 285 #[deskV (.slice A n c) (.slice B m d) out, lv] w fun e w' => e = .returned (.tuple #[deskV (.slice A n c) (.slice B m d) (sayB out (numB (x :: ns))), .bool (x != -1)]) ∧ Below w.heap.size w w' := by
  have hf := numB_size (x :: ns) hz
  simp only [List.length_cons] at hf
  have hF : ∀ W, Below w.heap.size w W → Calls Tryz.prog 19 #[lv] W fun e w' => e = .returned (.string (numB (x :: ns))) ∧ Below W.heap.size W w' := fun W hW => imFormatNumbers_c (x :: ns) lv W (hT.below hW) (hx.below hW) hz (by simp; omega)
  have HF := Lib.hid hF
  obtain ⟨A9, c9, rfl, _, _, hcell⟩ := hx.open
  obtain ⟨b9, o9, rfl, hb9, hc9⟩ := hcell 0 (by simp)
  have hlen : ((x :: ns).length : Int) = (ns.length : Int) + 1 := by simp
  simp only [List.getElem_cons_zero, Nat.add_zero] at hc9
  clear hx hF hcell
  generalize (x :: ns).length = k9 at *
  have i0 : 0 < k9 := by omega
  have HS := Lib.hid (fun W => say_c A B n c m d out (numB (x :: ns)) (by omega) (by omega) W)
  clear hlen
  generalize numB (x :: ns) = t at *
  go_enter Tryz.func285, Tryz.ntmps285
  go_wp2
  obtain ⟨W3, hW3⟩ : ∃ W3 : World, W3 = (w.alloc (.cells #[.slice A n c, .slice B m d, .string out] 93)).alloc (.cells #[.slice none 0 0, .slice none 0 0, .string ⟨#[]⟩] 93) := ⟨_, rfl⟩
  have K1 : At W3 w.heap.size 93 #[.slice A n c, .slice B m d, .string out] := by rw [hW3]; exact (At.new w _ _).alloc _
  have K2 : At W3 (w.heap.size + 1) 93 #[.slice none 0 0, .slice none 0 0, .string ⟨#[]⟩] := by rw [hW3]; have := At.new (w.alloc (.cells #[.slice A n c, .slice B m d, .string out] 93)) 93 #[.slice none 0 0, .slice none 0 0, .string ⟨#[]⟩]; simpa using this
  have hB3 : Below w.heap.size w W3 := by rw [hW3]; exact ((Below.refl _ _).alloc (Nat.le_refl _) _).alloc (by simp) _
  have hs3 := hB3.size
  rw [← hW3]
  clear hW3
  have C1 : W3.cell? ⟨b9, o9, none⟩ = some (.int .i64 x) := (hB3.cell (p := ⟨b9, o9, none⟩) hb9).trans hc9
  refine wp_region_held_drew (S := fun W => At W w.heap.size 93 #[.slice A n c, .slice B m d, .string out] ∧ W.cell? ⟨b9, o9, none⟩ = some (.int .i64 x)) (by kernel_rfl) ⟨K1, C1⟩ (fun hHeld => ?_)
  refine wpAnyH_take (i := 0) (oi := _) (v := .agg #[.slice A n c, .slice B m d, .string out]) rfl (by kernel_rfl) (by kernel_rfl) (by kernel_rfl) (fun _ _ _ h => h) (yieldsIf_desk rfl (.tmp 2) rfl w.heap.size (.slice A n c) (.slice B m d) (.string out) (by rfl) (fun _ h => h.1)) hHeld ?_
  simp only [Act.put, List.getElem_toArray, List.getElem_cons_succ, List.getElem_cons_zero, List.setIfInBounds_toArray, List.set_cons_succ, List.set_cons_zero]
  refine wpAnyH_take (i := 1) (oi := _) (v := ?_) rfl (by kernel_rfl) (by kernel_rfl) (by kernel_rfl) (fun _ _ _ h => h) (Or.inl ⟨by rfl, by intro w0 _; go_simp; rfl⟩) hHeld ?_
  simp only [Act.put, List.getElem_toArray, List.getElem_cons_succ, List.getElem_cons_zero, List.setIfInBounds_toArray, List.set_cons_succ, List.set_cons_zero]
  refine wpAnyH_take (i := 4) (oi := _) (v := ?_) rfl (by kernel_rfl) (by kernel_rfl) (by kernel_rfl) (fun _ _ _ h => h) (Or.inl ⟨by rfl, by intro w0 _; go_simp; rfl⟩) hHeld ?_
  simp only [Act.put, List.getElem_toArray, List.getElem_cons_succ, List.getElem_cons_zero, List.setIfInBounds_toArray, List.set_cons_succ, List.set_cons_zero]
  refine wpAnyH_take (i := 5) (oi := _) (v := ?_) rfl (by kernel_rfl) (by kernel_rfl) (by kernel_rfl) (fun _ _ _ h => h) (Or.inl ⟨by rfl, by intro w0 _; go_simp; rfl⟩) hHeld ?_
  simp only [Act.put, List.getElem_toArray, List.getElem_cons_succ, List.getElem_cons_zero, List.setIfInBounds_toArray, List.set_cons_succ, List.set_cons_zero]
  refine wpAnyH_take (i := 6) (oi := _) (v := ?_) rfl (by kernel_rfl) (by kernel_rfl) (by kernel_rfl) (fun _ _ _ h => h) (Or.inl ⟨by rfl, by intro w0 h0; have h1 := h0.2; go_simp; rfl⟩) hHeld ?_
  simp only [Act.put, List.getElem_toArray, List.getElem_cons_succ, List.getElem_cons_zero, List.setIfInBounds_toArray, List.set_cons_succ, List.set_cons_zero]
  refine wpAnyH_take (i := 7) (oi := _) (v := ?_) rfl (by kernel_rfl) (by kernel_rfl) (by kernel_rfl) (fun _ _ _ h => h) (Or.inl ⟨by rfl, by intro w0 _; go_simp; rfl⟩) hHeld ?_
  simp only [Act.put, List.getElem_toArray, List.getElem_cons_succ, List.getElem_cons_zero, List.setIfInBounds_toArray, List.set_cons_succ, List.set_cons_zero]
  refine wpAnyH_ready (rs := [2]) (by kernel_rfl) (by simp) ?_
  refine AllReadyH.cons rfl (fun K hK => ?_) AllReadyH.nil
  go_simp
  go_at_call 19
  refine (HF.out _ (hB3.trans ((Below.refl _ _).drew))).mono ?_
  rintro e W4 ⟨rfl, hb4⟩
  replace hb4 : Below W3.heap.size W3 W4 := (Below.refl _ _).drew.trans hb4
  have m1 := K1.keep hb4
  have m2 := K2.keep hb4
  have hB4 := hB3.trans (hb4.mono hs3)
  have hs4 := hB4.size
  have D1 : W4.cell? ⟨b9, o9, none⟩ = some (.int .i64 x) := (hB4.cell (p := ⟨b9, o9, none⟩) hb9).trans hc9
  have hD1 := And.intro m1 D1
  clear hb4 K1 K2 hB3 hs3
  refine hK.out _ _ hD1 (fun hHeld2 => ?_)
  clear hK K hHeld
  try simp only [Act.put, List.getElem_toArray, List.getElem_cons_succ, List.getElem_cons_zero, List.setIfInBounds_toArray, List.set_cons_succ, List.set_cons_zero]
  refine wpAnyH_ready (rs := [3]) (by kernel_rfl) (by simp) ?_
  refine AllReadyH.cons rfl (fun K hK => ?_) AllReadyH.nil
  go_simp
  go_at_call 68
  refine (HS.out _).mono ?_
  rintro e W5 ⟨rfl, hb4⟩
  have n1 := m1.keep hb4
  have n2 := m2.keep hb4
  have hB5 := hB4.trans (hb4.mono hs4)
  have hs5 := hB5.size
  have E1 : W5.cell? ⟨b9, o9, none⟩ = some (.int .i64 x) := (hB5.cell (p := ⟨b9, o9, none⟩) hb9).trans hc9
  have hE1 := And.intro n1 E1
  clear hb4  m2 hB4 hs4
  refine hK.out _ _ hE1 (fun hHeld2 => ?_)
  clear hK K hD1
  try simp only [Act.put, List.getElem_toArray, List.getElem_cons_succ, List.getElem_cons_zero, List.setIfInBounds_toArray, List.set_cons_succ, List.set_cons_zero]
  refine wpAnyH_ready (rs := [8]) (by kernel_rfl) (by simp) ?_
  refine AllReadyH.cons rfl (fun K hK => ?_) AllReadyH.nil
  rw [if_pos (by rfl)]
  refine wp_store_row 93 (.tmp 4) (.tmp 9) rfl (w.heap.size + 1) #[.slice A n c, .slice B m d, .string (sayB out t)] (by rfl) (by rfl) 93 _ n2 (by kernel_rfl) rfl (desk_all _ _ _ _ _ _ _) ?_
  have hg6 := grown_setRow W5 (w.heap.size + 1) #[.slice A n c, .slice B m d, .string (sayB out t)]
  have hA6 := n2.setRow #[.slice A n c, .slice B m d, .string (sayB out t)]
  have p1 := n1.grown hg6 (fun e => by have := Option.some.inj e; omega)
  have hB6 := hB5.trans (below_grown hg6 (B := w.heap.size) hs5 (fun g e => by cases e; omega))
  have G1 : (W5.setRow (w.heap.size + 1) #[.slice A n c, .slice B m d, .string (sayB out t)]).cell? ⟨b9, o9, none⟩ = some (.int .i64 x) := (hB6.cell (p := ⟨b9, o9, none⟩) hb9).trans hc9
  have hP1 := And.intro p1 G1
  refine hK.out _ _ hP1 (fun hHeld3 => ?_)
  clear hK K
  try simp only [Act.put, List.getElem_toArray, List.getElem_cons_succ, List.getElem_cons_zero, List.setIfInBounds_toArray, List.set_cons_succ, List.set_cons_zero]
  refine wpAnyH_take (i := 9) (oi := _) (v := ?_) rfl (by kernel_rfl) (by kernel_rfl) (by kernel_rfl) (fun _ _ _ h => h) (Or.inl ⟨by rfl, by intro w0 _; go_simp; rfl⟩) hP1 ?_
  simp only [Act.put, List.getElem_toArray, List.getElem_cons_succ, List.getElem_cons_zero, List.setIfInBounds_toArray, List.set_cons_succ, List.set_cons_zero]
  refine wpAnyH_done (by kernel_rfl) ?_ _
  go_wp2
  refine bodyPost_ret (v := .tuple #[deskV (.slice A n c) (.slice B m d) (sayB out t), .bool (x != -1)]) (results_desk2 _ 4 5 Tryz.results285 _ (w.heap.size + 1) _ _ _ _ hA6 _ rfl rfl) rfl ⟨rfl, hB6⟩
end Go.Proofs.YtfedloljhocpgaaGreatDoor

