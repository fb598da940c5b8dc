import Derived.Test.YtfedloljhocpgaaGreatDoorDeB
import Derived.Test.YtfedloljhocpgaaGreatDoorRow
import Derived.Test.YtfedloljhocpgaaGreatDoorHeld
import Derived.Test.YtfedloljhocpgaaGreatDoorMark
import Derived.Test.YtfedloljhocpgaaGreatDoorFormat
import Derived.Test.YtfedloljhocpgaaGreatDoorTail
namespace Go.PG
open Go.RowKit Go.PM
def dashB (t : ByteArray) : ByteArray := if t = ⟨#[]⟩ then ⟨#[45]⟩ else t
def sayB (out t : ByteArray) : ByteArray := out ++ (dashB t ++ ⟨#[10]⟩)
theorem sayB_size (out t : ByteArray) : (sayB out t).size ≤ out.size + t.size + 2 := by
  unfold sayB dashB
  have c1 : (⟨#[45]⟩ : ByteArray).size = 1 := rfl
  have c2 : (⟨#[10]⟩ : ByteArray).size = 1 := rfl
  split
  · next h => subst h; simp only [ByteArray.size_append]; omega
  · simp only [ByteArray.size_append]; omega
end Go.PG
namespace Go.Proofs.YtfedloljhocpgaaGreatDoor
open Go.RowKit Go.PM Go.PG

abbrev deskV (lv sv : Value) (out : ByteArray) : Value := .agg #[lv, sv, .string out]
theorem results_desk1 (fn : Func) (r : Nat) (hr : fn.results = #[.cell r 93]) (W : World) (b : Nat) (x y z : Value) (hA : At W b 93 #[x, y, z]) (tmps : Array Value) (h2 : tmps.getD r undef = .pointer (some ⟨b, 0, none⟩)) :
    (results fn tmps).run Tryz.prog W = .ok (.agg #[x, y, z]) W := by
  have q0 := hA.cell 0
  have q1 := hA.cell 1
  have q2 := hA.cell 2
  simp at q0 q1 q2
  simp only [Array.getD_eq_getD_getElem?] at h2
  simp [results, hr, go_sem, h2, q0, q1, q2]
theorem results_desk2 (fn : Func) (r s : Nat) (hr : fn.results = #[.cell r 93, .tmp s]) (W : World) (b : Nat) (x y z u : Value) (hA : At W b 93 #[x, y, z]) (tmps : Array Value) (h2 : tmps.getD r undef = .pointer (some ⟨b, 0, none⟩)) (h3 : tmps.getD s undef = u) :
    (results fn tmps).run Tryz.prog W = .ok (.tuple #[.agg #[x, y, z], u]) W := by
  have q0 := hA.cell 0
  have q1 := hA.cell 1
  have q2 := hA.cell 2
  simp at q0 q1 q2
  simp only [Array.getD_eq_getD_getElem?] at h2 h3
  simp [results, hr, go_sem, h2, h3, q0, q1, q2]

theorem desk_all (A B : Option Addr) (n c m d : Nat) (s : ByteArray) : (#[Value.slice A n c, .slice B m d, .string s].all (·.oneCell')) = true := by simp [Value.oneCell']
theorem yieldsIf_desk {ops : Array Oper} {S : World → Prop} {op : Oper} {a : Act} (hw : Region.wanted op (yielded ops a.tmps) = true) (x : Operand) (ho : op.op = .load 93 x)
    (b : Nat) (u v z : Value) (hx : a.eval x = .pointer (some ⟨b, 0, none⟩)) (hS : ∀ w, S w → At w b 93 #[u, v, z]) : YieldsIf Tryz.prog ops S op (.agg #[u, v, z]) a :=
  .inl ⟨hw, fun w hw' => by
    have hA := hS w hw'
    have q0 := hA.cell 0
    have q1 := hA.cell 1
    have q2 := hA.cell 2
    simp at q0 q1 q2
    unfold execOp
    simp only [ho, hx]
    simp [go_sem, q0, q1, q2]⟩
set_option maxRecDepth 100000 in
set_option maxHeartbeats 1600000 in
theorem say_c (A B : Option Addr) (n c m d : Nat) (out t : ByteArray) (ho : out.size ≤ 100000000) (ht : t.size ≤ 100000000) (w : World) :
    Calls Tryz.prog 68 #[deskV (.slice A n c) (.slice B m d) out, .string t] w fun e w' => e = .returned (deskV (.slice A n c) (.slice B m d) (sayB out t)) ∧ Below w.heap.size w w' := by
  have hS : Hid (∀ s, dashB t = s → sayB out t = out ++ (s ++ ⟨#[10]⟩)) := fun s hs => by unfold sayB; rw [hs]
  have c2 : (⟨#[10]⟩ : ByteArray).size = 1 := rfl
  by_cases h0 : t = ⟨#[]⟩
  · have h1 : Hid (dashB t = ⟨#[45]⟩) := by show _ = _; unfold dashB; rw [if_pos h0]
    subst h0
    go_enter Tryz.func68, Tryz.ntmps68
    go_wp2
    refine bodyPost_ret (v := deskV (.slice A n c) (.slice B m d) (sayB out ⟨#[]⟩)) (results_desk1 _ 4 Tryz.results68 _ (w.heap.size + 1) _ _ _ ?_ _ rfl) rfl ⟨rfl, by (repeat' (first | (with_reducible exact Below.refl _ _) | (with_reducible assumption) | (with_reducible refine Below.alloc ?_ ?_ _) | (with_reducible refine Below.drew ?_) | (with_reducible refine Below.setCell ?_ ?_ _) | (with_reducible exact Nat.le_refl _) | omega | ((repeat (first | rewrite [World.size_alloc] | rewrite [World.size_setCell] | rewrite [World.size_drew])); omega) | (simp; omega) | (simp; done)))⟩
    rw [hS.out _ h1.out]
    have := At.new (w.alloc (.cells #[.slice A n c, .slice B m d, .string (out ++ (⟨#[45]⟩ ++ ⟨#[10]⟩))] 93)) 93 #[.slice A n c, .slice B m d, .string (out ++ (⟨#[45]⟩ ++ ⟨#[10]⟩))]
    simpa using this
  · have h1 : Hid (dashB t = t) := by show _ = _; unfold dashB; rw [if_neg h0]
    have h2 : (t.toList == []) = false := by
      rw [beq_eq_false_iff_ne]
      intro e
      exact h0 (toList_inj.1 (by rw [e, ByteArray.toList_eq]))
    go_enter Tryz.func68, Tryz.ntmps68
    go_wp2
    refine bodyPost_ret (v := deskV (.slice A n c) (.slice B m d) (sayB out t)) (results_desk1 _ 4 Tryz.results68 _ (w.heap.size + 1) _ _ _ ?_ _ rfl) rfl ⟨rfl, by (repeat' (first | (with_reducible exact Below.refl _ _) | (with_reducible assumption) | (with_reducible refine Below.alloc ?_ ?_ _) | (with_reducible refine Below.drew ?_) | (with_reducible refine Below.setCell ?_ ?_ _) | (with_reducible exact Nat.le_refl _) | omega | ((repeat (first | rewrite [World.size_alloc] | rewrite [World.size_setCell] | rewrite [World.size_drew])); omega) | (simp; omega) | (simp; done)))⟩
    rw [hS.out _ h1.out]
    have := At.new (w.alloc (.cells #[.slice A n c, .slice B m d, .string (out ++ (t ++ ⟨#[10]⟩))] 93)) 93 #[.slice A n c, .slice B m d, .string (out ++ (t ++ ⟨#[10]⟩))]
    simpa using this
theorem fmtB_size (xs : List Mv) : (fmtB xs).size ≤ 2 * msize xs + 1 := by
  have h := fmtL_len xs
  unfold fmtB
  split
  · split
    · show 1 ≤ _; omega
    · show (fmtL xs).toArray.size ≤ _
      simp; omega
  · show 0 ≤ _; omega
set_option maxRecDepth 100000 in
set_option maxHeartbeats 1600000 in
theorem withMoves_c (A0 : Option Addr) (n0 c0 : Nat) (B : Option Addr) (m d : Nat) (lv : Value) (xs : List Mv) (out : ByteArray) (ok : Bool) (ho : out.size ≤ 50000000) (hms : msize xs ≤ 1048576) (w : World) (hx : RdM w lv xs) :
    Calls Tryz.prog 192 #[deskV (.slice A0 n0 c0) (.slice B m d) out, lv, .bool ok] w fun e w' => e = .returned (.tuple #[deskV lv (.slice B m d) (sayB out (fmtB xs)), .bool ok]) ∧ Below w.heap.size w w' := by
  have hf : (fmtB xs).size ≤ 50000000 := by have := fmtB_size xs; omega
  have hF : ∀ W, Below w.heap.size w W → Calls Tryz.prog 15 #[lv] W fun e w' => e = .returned (.string (fmtB xs)) ∧ Below W.heap.size W w' := fun W hW => imFormatMoves_c xs lv W (hx.below hW) hms
  have HF := Lib.hid hF
  obtain ⟨A, n, c, rfl⟩ : ∃ A n c, lv = .slice A n c := by obtain ⟨A, c, e, _⟩ := hx; exact ⟨A, _, c, e⟩
  have HS := Lib.hid (fun W => say_c A B n c m d out (fmtB xs) (by omega) (by omega) W)
  clear hx hF
  generalize fmtB xs = t at *
  go_enter Tryz.func192, Tryz.ntmps192
  go_wp2
  obtain ⟨W3, hW3⟩ : ∃ W3 : World, W3 = (w.alloc (.cells #[.slice A n c, .slice B m d, .string out] 93)).alloc (.cells #[.slice none 0 0, .slice none 0 0, .string ⟨#[]⟩] 93) := ⟨_, rfl⟩
  have K1 : At W3 w.heap.size 93 #[.slice A n c, .slice B m d, .string out] := by rw [hW3]; exact (At.new w _ _).alloc _
  have K2 : At W3 (w.heap.size + 1) 93 #[.slice none 0 0, .slice none 0 0, .string ⟨#[]⟩] := by rw [hW3]; have := At.new (w.alloc (.cells #[.slice A n c, .slice B m d, .string out] 93)) 93 #[.slice none 0 0, .slice none 0 0, .string ⟨#[]⟩]; simpa using this
  have hB3 : Below w.heap.size w W3 := by rw [hW3]; exact ((Below.refl _ _).alloc (Nat.le_refl _) _).alloc (by simp) _
  have hs3 := hB3.size
  rw [← hW3]
  clear hW3
  refine wp_region_held_drew (S := fun W => At W w.heap.size 93 #[.slice A n c, .slice B m d, .string out]) (by kernel_rfl) K1 (fun hHeld => ?_)
  refine wpAnyH_take (i := 0) (oi := _) (v := .agg #[.slice A n c, .slice B m d, .string out]) rfl (by kernel_rfl) (by kernel_rfl) (by kernel_rfl) (fun _ _ _ h => h) (yieldsIf_desk rfl (.tmp 3) rfl w.heap.size (.slice A n c) (.slice B m d) (.string out) (by rfl) (fun _ h => h)) hHeld ?_
  simp only [Act.put, List.getElem_toArray, List.getElem_cons_succ, List.getElem_cons_zero, List.setIfInBounds_toArray, List.set_cons_succ, List.set_cons_zero]
  refine wpAnyH_take (i := 1) (oi := _) (v := ?_) rfl (by kernel_rfl) (by kernel_rfl) (by kernel_rfl) (fun _ _ _ h => h) (Or.inl ⟨by rfl, by intro w0 _; go_simp; rfl⟩) hHeld ?_
  simp only [Act.put, List.getElem_toArray, List.getElem_cons_succ, List.getElem_cons_zero, List.setIfInBounds_toArray, List.set_cons_succ, List.set_cons_zero]
  refine wpAnyH_take (i := 4) (oi := _) (v := ?_) rfl (by kernel_rfl) (by kernel_rfl) (by kernel_rfl) (fun _ _ _ h => h) (Or.inl ⟨by rfl, by intro w0 _; go_simp; rfl⟩) hHeld ?_
  simp only [Act.put, List.getElem_toArray, List.getElem_cons_succ, List.getElem_cons_zero, List.setIfInBounds_toArray, List.set_cons_succ, List.set_cons_zero]
  refine wpAnyH_ready (rs := [2]) (by kernel_rfl) (by simp) ?_
  refine AllReadyH.cons rfl (fun K hK => ?_) AllReadyH.nil
  go_simp
  go_at_call 15
  refine (HF.out _ (hB3.trans ((Below.refl _ _).drew))).mono ?_
  rintro e W4 ⟨rfl, hb4⟩
  replace hb4 : Below W3.heap.size W3 W4 := (Below.refl _ _).drew.trans hb4
  have m1 := K1.keep hb4
  have m2 := K2.keep hb4
  have hB4 := hB3.trans (hb4.mono hs3)
  have hs4 := hB4.size
  clear hb4 K1 K2 hB3 hs3
  refine hK.out _ _ m1 (fun hHeld2 => ?_)
  clear hK K hHeld
  try simp only [Act.put, List.getElem_toArray, List.getElem_cons_succ, List.getElem_cons_zero, List.setIfInBounds_toArray, List.set_cons_succ, List.set_cons_zero]
  refine wpAnyH_ready (rs := [3]) (by kernel_rfl) (by simp) ?_
  refine AllReadyH.cons rfl (fun K hK => ?_) AllReadyH.nil
  go_simp
  go_at_call 68
  refine (HS.out _).mono ?_
  rintro e W5 ⟨rfl, hb5⟩
  have n1 := m1.keep hb5
  have n2 := m2.keep hb5
  have hB5 := hB4.trans (hb5.mono hs4)
  have hs5 := hB5.size
  clear hb5 m2 hB4 hs4
  refine hK.out _ _ n1 (fun hHeld2 => ?_)
  clear hK K m1
  try simp only [Act.put, List.getElem_toArray, List.getElem_cons_succ, List.getElem_cons_zero, List.setIfInBounds_toArray, List.set_cons_succ, List.set_cons_zero]
  refine wpAnyH_ready (rs := [5]) (by kernel_rfl) (by simp) ?_
  refine AllReadyH.cons rfl (fun K hK => ?_) AllReadyH.nil
  rw [if_pos (by rfl)]
  refine wp_store_row 93 (.tmp 6) (.tmp 13) rfl (w.heap.size + 1) #[.slice A n c, .slice B m d, .string (sayB out t)] (by rfl) (by rfl) 93 _ n2 (by kernel_rfl) rfl (desk_all _ _ _ _ _ _ _) ?_
  have hg6 := grown_setRow W5 (w.heap.size + 1) #[.slice A n c, .slice B m d, .string (sayB out t)]
  have hA6 := n2.setRow #[.slice A n c, .slice B m d, .string (sayB out t)]
  have p1 := n1.grown hg6 (fun e => by have := Option.some.inj e; omega)
  have hB6 := hB5.trans (below_grown hg6 (B := w.heap.size) hs5 (fun g e => by cases e; omega))
  refine hK.out _ _ p1 (fun hHeld3 => ?_)
  clear hK K
  try simp only [Act.put, List.getElem_toArray, List.getElem_cons_succ, List.getElem_cons_zero, List.setIfInBounds_toArray, List.set_cons_succ, List.set_cons_zero]
  refine wpAnyH_take (i := 6) (oi := _) (v := ?_) rfl (by kernel_rfl) (by kernel_rfl) (by kernel_rfl) (fun _ _ _ h => h) (Or.inl ⟨by rfl, by intro w0 _; go_simp; rfl⟩) p1 ?_
  simp only [Act.put, List.getElem_toArray, List.getElem_cons_succ, List.getElem_cons_zero, List.setIfInBounds_toArray, List.set_cons_succ, List.set_cons_zero]
  refine wpAnyH_done (by kernel_rfl) ?_ _
  go_wp2
  refine bodyPost_ret (v := .tuple #[deskV (.slice A n c) (.slice B m d) (sayB out t), .bool ok]) (results_desk2 _ 6 7 Tryz.results192 _ (w.heap.size + 1) _ _ _ _ hA6 _ rfl rfl) rfl ⟨rfl, hB6⟩
end Go.Proofs.YtfedloljhocpgaaGreatDoor

