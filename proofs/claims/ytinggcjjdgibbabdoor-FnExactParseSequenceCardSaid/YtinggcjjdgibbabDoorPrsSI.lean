import Derived.Test.YtinggcjjdgibbabDoorPrsSM
import Derived.Test.YtinggcjjdgibbabDoorPrsI
import Derived.Test.YtinggcjjdgibbabDoorHar2
namespace Go.Proofs.YtinggcjjdgibbabDoor
open Go.RowKit Go.PM
attribute [local go_sem] Oper.semAt_some

theorem results_st (fn : Func) (hr : fn.results = #[.cell 2 49, .tmp 3]) (W : World) (b : Nat) (k : Int) (a c : ByteArray) (x : Bool) (hA : At W b 49 #[.int .i64 k, .string a, .string c]) (tmps : Array Value) (h2 : tmps.getD 2 undef = .pointer (some ⟨b, 0, none⟩)) (h3 : tmps.getD 3 undef = .bool x) :
    (results fn tmps).run Tryd.prog W = .ok (.tuple #[.agg #[.int .i64 k, .string a, .string c], .bool x]) W := by
  have q0 := hA.cell 0
  have q1 := hA.cell 1
  have q2 := hA.cell 2
  simp at q0 q1 q2
  simp only [Array.getD_eq_getD_getElem?] at h2 h3
  simp [results, hr, go_sem, h2, h3, q0, q1, q2]

def psV (x : ByteArray) : Value := .tuple #[.agg #[.int .i64 (if psG x then pS x else (0, ⟨#[]⟩, ⟨#[]⟩)).1, .string (if psG x then pS x else (0, ⟨#[]⟩, ⟨#[]⟩)).2.1, .string (if psG x then pS x else (0, ⟨#[]⟩, ⟨#[]⟩)).2.2], .bool (psG x)]
theorem psV_yes {x : ByteArray} {s : St} (h : psG x = true) (hs : pS x = s) : psV x = .tuple #[.agg #[.int .i64 s.1, .string s.2.1, .string s.2.2], .bool true] := by
  unfold psV; rw [h, ← hs]; rfl
theorem psV_no {x : ByteArray} (h : psG x = false) : psV x = .tuple #[.agg #[.int .i64 0, .string ⟨#[]⟩, .string ⟨#[]⟩], .bool false] := by
  unfold psV; rw [h]; rfl

set_option maxRecDepth 100000 in
set_option maxHeartbeats 1600000 in
theorem parseStep_c (x : ByteArray) (w : World) (hx : x.size ≤ 1048576) (hg : Sg w) :
    Calls Tryd.prog 28 #[.string x] w fun e w' => e = .returned (psV x) ∧ Below w.heap.size w w' := by
  have HA := Lib.hid (fun W => strCut_c x 61 W hx)
  have HB := Lib.hid (fun W => strCut_c x 126 W hx)
  have HY0 := Lib.hid (fun h => psV_yes (step_eq (x := x) h).1 (step_eq (x := x) h).2)
  have HY1 := Lib.hid (fun h => psV_yes (step_sw (x := x) h).1 (step_sw (x := x) h).2)
  have HNO := Lib.hid (fun h1 h2 => psV_no (step_no (x := x) h1 h2))
  generalize psV x = r at *
  generalize cutB x 61 = A at *
  generalize cutB x 126 = B at *
  obtain ⟨a0, b0, m0⟩ := A
  obtain ⟨a1, b1, m1⟩ := B
  simp only at HA HB HY0 HY1 HNO
  have hb0 : Below w.heap.size w (w.alloc (.cells #[.int .i64 0, .string ⟨#[]⟩, .string ⟨#[]⟩] 49)) := (Below.refl _ _).alloc (Nat.le_refl _) _
  have hN0 := At.new w 49 #[.int .i64 0, .string ⟨#[]⟩, .string ⟨#[]⟩]
  have hg1 := hg.below hb0
  have c0 := hg1.c0
  have c1 := hg1.c1
  have x0 : ∀ W : World, (Instr.index 88 (.agg #[.string ⟨#[61]⟩, .string ⟨#[126]⟩]) (.int .i64 0)).run Tryd.prog W = .ok (.string ⟨#[61]⟩) W := fun _ => by kernel_rfl
  have x1 : ∀ W : World, (Instr.index 88 (.agg #[.string ⟨#[61]⟩, .string ⟨#[126]⟩]) (.int .i64 1)).run Tryd.prog W = .ok (.string ⟨#[126]⟩) W := fun _ => by kernel_rfl
  go_enter Tryd.func28, Tryd.ntmps28
  go_wp2
  go_loopw [11] (fun i wr => ∃ (k : Nat), k ≤ 2 ∧ i = .int .i64 k ∧ Hid (1 ≤ k → stOk (0, a0, b0) = false) ∧ Hid (2 ≤ k → stOk (1, a1, b1) = false) ∧ At wr w.heap.size 49 #[.int .i64 0, .string ⟨#[]⟩, .string ⟨#[]⟩] ∧ Below w.heap.size w wr) (fun i _ => 2 - (intOf i).toNat)
  case atStart => exact ⟨0, by omega, rfl, fun h => absurd h (by decide), fun h => absurd h (by decide), hN0, hb0⟩
  case round =>
    obtain ⟨k, hk, rfl, h1, h2, hN, hb⟩ := hrel
    have hbs := hb.size
    have hNl := hN.lt
    rcases (show k = 0 ∨ k = 1 ∨ k = 2 by omega) with rfl | rfl | rfl
    · rcases Bool.eq_false_or_eq_true (stOk (0, a0, b0)) with h00 | h00
      · have HS := Lib.hid h00
        go_wp2_with fail
        refine (HA.out _).mono ?_
        rintro e V2 ⟨rfl, hb2⟩
        have hs2 := hb2.size
        have B2 := hb.trans (hb2.mono hbs)
        have N2 := hN.keep hb2
        go_wp2_with fail
        refine (stepValid_c 0 a0 b0 _).mono ?_
        rintro e V3 ⟨rfl, hb3⟩
        rw [HS.out]
        have hal : Below w.heap.size w (V2.alloc (.cells #[.int .i64 0, .string a0, .string b0] 49)) := B2.alloc (B2.size) _
        have B3 : Below w.heap.size w V3 := hal.trans (hb3.mono hal.size)
        have N3 := (N2.alloc (.cells #[.int .i64 0, .string a0, .string b0] 49)).keep hb3
        have nd := ((At.new V2 49 #[.int .i64 0, .string a0, .string b0]).keep hb3)
        have d0 := nd.cell 0
        have d1 := nd.cell 1
        have d2 := nd.cell 2
        have HV := Lib.hid (HY0.out HS.out)
        have q0 : V3.cell? ⟨w.heap.size, 0, none⟩ = some (.int .i64 0) := N3.cell 0
        have q1 : V3.cell? ⟨w.heap.size, 1, none⟩ = some (.string ⟨#[]⟩) := N3.cell 1
        have q2 : V3.cell? ⟨w.heap.size, 2, none⟩ = some (.string ⟨#[]⟩) := N3.cell 2
        have z0 := N3.frozen 0
        have z1 := N3.frozen 1
        have z2 := N3.frozen 2
        have hl := N3.lt
        have hs3 := B3.size
        go_wp2
        refine bodyPost_ret (v := .tuple #[.agg #[.int .i64 0, .string a0, .string b0], .bool true]) (results_st _ Tryd.results28 _ w.heap.size _ _ _ _ ?_ _ rfl rfl) rfl ⟨by rw [HV.out], by (repeat' (first | (with_reducible exact Below.refl _ _) | (with_reducible assumption) | (with_reducible refine Below.alloc ?_ ?_ _) | (with_reducible refine Below.drew ?_) | (with_reducible refine Below.setCell ?_ ?_ _) | (with_reducible exact Nat.le_refl _) | omega | ((repeat (first | rewrite [World.size_alloc] | rewrite [World.size_setCell] | rewrite [World.size_drew])); omega) | (simp; omega) | (simp; done)))⟩
        have := ((N3.set 0 (.int .i64 0)).set 1 (.string a0)).set 2 (.string b0)
        simpa using this
      · have HS := Lib.hid h00
        go_wp2_with fail
        refine (HA.out _).mono ?_
        rintro e V2 ⟨rfl, hb2⟩
        have hs2 := hb2.size
        have B2 := hb.trans (hb2.mono hbs)
        have N2 := hN.keep hb2
        go_wp2_with fail
        refine (stepValid_c 0 a0 b0 _).mono ?_
        rintro e V3 ⟨rfl, hb3⟩
        rw [HS.out]
        have hal : Below w.heap.size w (V2.alloc (.cells #[.int .i64 0, .string a0, .string b0] 49)) := B2.alloc (B2.size) _
        have B3 : Below w.heap.size w V3 := hal.trans (hb3.mono hal.size)
        have N3 := (N2.alloc (.cells #[.int .i64 0, .string a0, .string b0] 49)).keep hb3
        have nd := ((At.new V2 49 #[.int .i64 0, .string a0, .string b0]).keep hb3)
        have d0 := nd.cell 0
        have d1 := nd.cell 1
        have d2 := nd.cell 2
        go_wp2
        go_roundw
        case rel => exact ⟨0+1, by omega, by go_num, fun _ => HS.out, fun h => absurd h (by decide), N3, B3⟩
        case measure => simp [intOf] <;> omega
    · rcases Bool.eq_false_or_eq_true (stOk (1, a1, b1)) with h01 | h01
      · have HS := Lib.hid h01
        go_wp2_with fail
        refine (HB.out _).mono ?_
        rintro e V2 ⟨rfl, hb2⟩
        have hs2 := hb2.size
        have B2 := hb.trans (hb2.mono hbs)
        have N2 := hN.keep hb2
        go_wp2_with fail
        refine (stepValid_c 1 a1 b1 _).mono ?_
        rintro e V3 ⟨rfl, hb3⟩
        rw [HS.out]
        have hal : Below w.heap.size w (V2.alloc (.cells #[.int .i64 1, .string a1, .string b1] 49)) := B2.alloc (B2.size) _
        have B3 : Below w.heap.size w V3 := hal.trans (hb3.mono hal.size)
        have N3 := (N2.alloc (.cells #[.int .i64 1, .string a1, .string b1] 49)).keep hb3
        have nd := ((At.new V2 49 #[.int .i64 1, .string a1, .string b1]).keep hb3)
        have d0 := nd.cell 0
        have d1 := nd.cell 1
        have d2 := nd.cell 2
        have HV := Lib.hid (HY1.out HS.out)
        have q0 : V3.cell? ⟨w.heap.size, 0, none⟩ = some (.int .i64 0) := N3.cell 0
        have q1 : V3.cell? ⟨w.heap.size, 1, none⟩ = some (.string ⟨#[]⟩) := N3.cell 1
        have q2 : V3.cell? ⟨w.heap.size, 2, none⟩ = some (.string ⟨#[]⟩) := N3.cell 2
        have z0 := N3.frozen 0
        have z1 := N3.frozen 1
        have z2 := N3.frozen 2
        have hl := N3.lt
        have hs3 := B3.size
        go_wp2
        refine bodyPost_ret (v := .tuple #[.agg #[.int .i64 1, .string a1, .string b1], .bool true]) (results_st _ Tryd.results28 _ w.heap.size _ _ _ _ ?_ _ rfl rfl) rfl ⟨by rw [HV.out], by (repeat' (first | (with_reducible exact Below.refl _ _) | (with_reducible assumption) | (with_reducible refine Below.alloc ?_ ?_ _) | (with_reducible refine Below.drew ?_) | (with_reducible refine Below.setCell ?_ ?_ _) | (with_reducible exact Nat.le_refl _) | omega | ((repeat (first | rewrite [World.size_alloc] | rewrite [World.size_setCell] | rewrite [World.size_drew])); omega) | (simp; omega) | (simp; done)))⟩
        have := ((N3.set 0 (.int .i64 1)).set 1 (.string a1)).set 2 (.string b1)
        simpa using this
      · have HS := Lib.hid h01
        go_wp2_with fail
        refine (HB.out _).mono ?_
        rintro e V2 ⟨rfl, hb2⟩
        have hs2 := hb2.size
        have B2 := hb.trans (hb2.mono hbs)
        have N2 := hN.keep hb2
        go_wp2_with fail
        refine (stepValid_c 1 a1 b1 _).mono ?_
        rintro e V3 ⟨rfl, hb3⟩
        rw [HS.out]
        have hal : Below w.heap.size w (V2.alloc (.cells #[.int .i64 1, .string a1, .string b1] 49)) := B2.alloc (B2.size) _
        have B3 : Below w.heap.size w V3 := hal.trans (hb3.mono hal.size)
        have N3 := (N2.alloc (.cells #[.int .i64 1, .string a1, .string b1] 49)).keep hb3
        have nd := ((At.new V2 49 #[.int .i64 1, .string a1, .string b1]).keep hb3)
        have d0 := nd.cell 0
        have d1 := nd.cell 1
        have d2 := nd.cell 2
        go_wp2
        go_roundw
        case rel => exact ⟨1+1, by omega, by go_num, fun _ => h1.out (by decide), fun _ => HS.out, N3, B3⟩
        case measure => simp [intOf] <;> omega
    · have HV := Lib.hid (HNO.out (h1.out (by decide)) (h2.out (by decide)))
      have q0 : wr.cell? ⟨w.heap.size, 0, none⟩ = some (.int .i64 0) := hN.cell 0
      have q1 : wr.cell? ⟨w.heap.size, 1, none⟩ = some (.string ⟨#[]⟩) := hN.cell 1
      have q2 : wr.cell? ⟨w.heap.size, 2, none⟩ = some (.string ⟨#[]⟩) := hN.cell 2
      have z0 := hN.frozen 0
      have z1 := hN.frozen 1
      have z2 := hN.frozen 2
      go_wp2
      refine bodyPost_ret (v := .tuple #[.agg #[.int .i64 0, .string ⟨#[]⟩, .string ⟨#[]⟩], .bool false]) (results_st _ Tryd.results28 _ w.heap.size _ _ _ _ ?_ _ rfl rfl) rfl ⟨by rw [HV.out], by (repeat' (first | (with_reducible exact Below.refl _ _) | (with_reducible assumption) | (with_reducible refine Below.alloc ?_ ?_ _) | (with_reducible refine Below.drew ?_) | (with_reducible refine Below.setCell ?_ ?_ _) | (with_reducible exact Nat.le_refl _) | omega | ((repeat (first | rewrite [World.size_alloc] | rewrite [World.size_setCell] | rewrite [World.size_drew])); omega) | (simp; omega) | (simp; done)))⟩
      have := ((hN.set 0 (.int .i64 0)).set 1 (.string ⟨#[]⟩)).set 2 (.string ⟨#[]⟩)
      simpa using this

theorem seq_mem {t x : ByteArray} {pre : List ByteArray} (h : pre ++ [x] <+: pcsB 59 t) : x.size ≤ t.size := by
  have : x ∈ pcsB 59 t := h.mem (List.mem_append_right _ (List.mem_singleton_self x))
  rw [← cutP_pcs] at this
  exact cutP_size this
theorem results_sq (W : World) (b1 b2 : Nat) (v b : Value) (h1 : At W b1 23 #[v]) (h2 : At W b2 4 #[b]) (tmps : Array Value) (e1 : tmps.getD 2 undef = .pointer (some ⟨b1, 0, none⟩)) (e2 : tmps.getD 3 undef = .pointer (some ⟨b2, 0, none⟩)) :
    (results Tryd.f8 tmps).run Tryd.prog W = .ok (.tuple #[v, b]) W := by
  have q1 : W.cell? ⟨b1, 0, none⟩ = some v := h1.cell 0
  have q2 : W.cell? ⟨b2, 0, none⟩ = some b := h2.cell 0
  have e1' : tmps[2]?.getD undef = .pointer (some ⟨b1, 0, none⟩) := by simpa using e1
  have e2' : tmps[3]?.getD undef = .pointer (some ⟨b2, 0, none⟩) := by simpa using e2
  simp [results, Tryd.results8, go_sem, e1', e2', q1, q2]
theorem st_new (w : World) (k : Int) (a b : ByteArray) : ∀ j u, [Value.int .i64 k, Value.string a, Value.string b][j]? = some u → (w.alloc (.cells #[.int .i64 k, .string a, .string b] 49)).cell? ((⟨w.heap.size, 0, none⟩ : Addr).add j) = some u := by
  intro j u hj
  match j, hj with
  | 0, hj => simp at hj; subst hj; simp [Addr.add]
  | 1, hj => simp at hj; subst hj; simp [Addr.add]
  | 2, hj => simp at hj; subst hj; simp [Addr.add]
theorem listIn_st {F : Fence} {k : Nat} {ops : Array Oper} {rest : List Oper} {o : Oper} {a : Act} {Q : Exit → Act → World → Prop} {w : World} (hgd : o.guard = none) (s x : Operand)
    (ho : o.op = .call { callee := .builtin .append, args := #[s, x], argTypes := #[23, 23] })
    (base : Nat) (v : Value) (ys : List St) (m : St) (ad : Addr) (c : Nat) (hs : a.eval s = v) (hx : a.eval x = .slice (some ad) 1 c)
    (hown : w.ownsRow base 49 3 v ys.length (scells ys)) (hnew : ∀ j u, [Value.int .i64 m.1, Value.string m.2.1, Value.string m.2.2][j]? = some u → w.cell? (ad.add j) = some u)
    (hlen : ys.length ≤ 1048576) (hbase : base ≤ w.heap.size)
    (h : ∀ v' w', w'.ownsRow base 49 3 v' (ys ++ [m]).length (scells (ys ++ [m])) → w.grownBy w' v.ownBlock → wpListIn F k Tryd.prog ops Q rest (a.put o.dst v') w') : wpListIn F k Tryd.prog ops Q (o :: rest) a w := by
  obtain ⟨i0, hi0, hz0, hz1, hz2⟩ := info_parts infoSt
  refine wpListIn_append_own w hgd s x _ ho base 49 i0 _ 3 40 Tryd.underlying23 hi0 hz0 hz1 hz2 rfl (by omega) v ys.length (scells ys) hs hown ad 1 c [Value.int .i64 m.1, Value.string m.2.1, Value.string m.2.2] hx rfl hnew
    (by intro u hu; simp at hu; rcases hu with rfl | rfl | rfl <;> rfl) (by simp only [maxLen]; omega) (by omega) hbase ?_
  intro v' w' h2 h3 _
  refine h v' w' ?_ h3
  have hcs : scells ys ++ [Value.int .i64 m.1, Value.string m.2.1, Value.string m.2.2] = scells (ys ++ [m]) := by rw [scells_append]; simp [scells]
  rw [← hcs, List.length_append]
  simpa using h2

set_option maxRecDepth 100000 in
set_option maxHeartbeats 3200000 in
theorem imParseSequence_c (t : ByteArray) (w : World) (ht : t.size ≤ 1048576) (hg : Sg w) :
    Calls Tryd.prog 8 #[.string t] w fun e w' => ∃ v', e = .returned (.tuple #[v', .bool (sqOk t)]) ∧ w'.ownsRow w.heap.size 49 3 v' (sqS t).length (scells (sqS t)) ∧ Below w.heap.size w w' := by
  have hd45 : (t.toList == [45]) = decide (t = ⟨#[45]⟩) := by
    have e : (ByteArray.mk #[45]).toList = [45] := by rw [ByteArray.toList_eq]
    have h := beq_str t ⟨#[45]⟩
    rw [e] at h; exact h
  by_cases h0 : t = ⟨#[45]⟩
  · have HK : Hid (sqOk t = true) := by show _ = _; rw [sqOk, decide_eq_true h0]; rfl
    have HM : Hid (sqS t = []) := if_pos h0
    rw [decide_eq_true h0] at hd45
    clear h0
    go_enter Tryd.func8, Tryd.ntmps8
    go_wp2
    refine bodyPost_ret (results_sq _ w.heap.size (w.heap.size + 1) (.slice none 0 0) (.bool true) ((At.new _ _ _).alloc _) ?_ _ rfl rfl) rfl ⟨_, by rw [HK.out], by rw [HM.out]; exact ⟨rfl, .inl ⟨rfl, rfl⟩⟩, by (repeat' (first | (with_reducible exact Below.refl _ _) | (with_reducible assumption) | (with_reducible refine Below.alloc ?_ ?_ _) | (with_reducible refine Below.drew ?_) | (with_reducible refine Below.setCell ?_ ?_ _) | (with_reducible exact Nat.le_refl _) | omega | ((repeat (first | rewrite [World.size_alloc] | rewrite [World.size_setCell] | rewrite [World.size_drew])); omega) | (simp; omega) | (simp; done)))⟩
    have := At.new (w.alloc (.cells #[.slice none 0 0] 23)) 4 #[.bool true]
    rwa [World.size_alloc] at this
  · have HPC := Lib.hid (sq_cut h0)
    rw [decide_eq_false h0] at hd45
    clear h0
    refine (callsIn_wide (n := 5)).1 ?_
    refine callsIn_of_wp_marks Tryd.func8 rfl trivial ?_ rfl
    simp only [Tryd.ntmps8, List.size_toArray, List.length_cons, List.length_nil, Nat.reduceAdd, Nat.reduceSub, Array.replicate_succ, Array.replicate_zero, List.push_toArray, List.append_toArray, List.nil_append, List.cons_append]
    gi_wp2_with fail
    obtain ⟨W4, hW4⟩ : ∃ W4 : World, W4 = ((w.alloc (.cells #[.slice none 0 0] 23)).alloc (.cells #[.bool false] 4)).alloc (.cells #[.slice none 0 0] 23) := ⟨_, rfl⟩
    have hS4 : W4.heap.size = w.heap.size + 1 + 1 + 1 := by rw [hW4]; simp only [World.size_alloc]
    have hB4 : Below w.heap.size w W4 := by rw [hW4]; (repeat' (first | (with_reducible exact Below.refl _ _) | (with_reducible assumption) | (with_reducible refine Below.alloc ?_ ?_ _) | (with_reducible refine Below.drew ?_) | (with_reducible refine Below.setCell ?_ ?_ _) | (with_reducible exact Nat.le_refl _) | omega | ((repeat (first | rewrite [World.size_alloc] | rewrite [World.size_setCell] | rewrite [World.size_drew])); omega) | (simp; omega) | (simp; done)))
    have x0 : At W4 w.heap.size 23 #[.slice none 0 0] := by rw [hW4]; exact ((At.new _ _ _).alloc _).alloc _
    have x1 : At W4 (w.heap.size + 1) 4 #[.bool false] := by
      rw [hW4]
      have := At.new (w.alloc (.cells #[.slice none 0 0] 23)) 4 #[.bool false]
      rw [World.size_alloc] at this
      exact this.alloc _
    have x2 : At W4 (w.heap.size + 1 + 1) 23 #[.slice none 0 0] := by
      rw [hW4]
      have := At.new ((w.alloc (.cells #[.slice none 0 0] 23)).alloc (.cells #[.bool false] 4)) 23 #[.slice none 0 0]
      simp only [World.size_alloc] at this
      exact this
    rw [← hW4]
    refine ⟨trivial, callsIn_wide.2 ((partsOf_c _ _ _).mono ?_)⟩
    rintro e W5 ⟨rfl, x4, x5, hb5⟩
    rw [hS4] at x4 x5 ⊢
    replace x0 := x0.keep hb5
    replace x1 := x1.keep hb5
    replace x2 := x2.keep hb5
    have hB5 := hB4.trans (hb5.mono hB4.size)
    have hlt := x5.lt
    clear hb5 hB4 hW4 hS4
    gi_wp2
    refine range_law3 (F := Fence.wide) (Pr := fun A => At A (w.heap.size + 1 + 1 + 1) 9 #[.string t] ∧ At A (w.heap.size + 1 + 1 + 1 + 1) 9 #[.string ⟨#[59]⟩]) (gf := 54) (lf := #[]) (lb := #[.pointer (some ⟨w.heap.size + 1 + 1 + 1, 0, none⟩), .pointer (some ⟨w.heap.size + 1 + 1 + 1 + 1, 0, none⟩)]) rfl (by decide) rfl trivial (fun args w => rfl) (encs := fun s : ByteArray => #[.string s]) (xs := pcsB 59 t) (κ := 0)
      (parts_iter t 59 _ _ _ ht (by decide)) (fun _ => rfl)
      (fun pre A => ∃ o, At A w.heap.size 23 #[.slice none 0 0] ∧ At A (w.heap.size + 1) 4 #[.bool false] ∧ At A (w.heap.size + 1 + 1) 23 #[o] ∧ At A (w.heap.size + 1 + 1 + 1) 9 #[.string t] ∧ At A (w.heap.size + 1 + 1 + 1 + 1) 9 #[.string ⟨#[59]⟩] ∧ Hid (goodP pre = true) ∧ A.ownsRow (W5.heap.size + 2) 49 3 o (pre.map pS).length (scells (pre.map pS)) ∧ Below w.heap.size w A)
      (fun c pre A => c = .ret ∧ ¬ goodP pre = true ∧ At A w.heap.size 23 #[.slice none 0 0] ∧ At A (w.heap.size + 1) 4 #[.bool false] ∧ Below w.heap.size w A)
      ?_ ?_ ?_ ?_
      (fun s a' _ => a' = { tmps := #[.string t, undef, .pointer (some ⟨w.heap.size, 0, none⟩), .pointer (some ⟨w.heap.size + 1, 0, none⟩), .pointer (some ⟨w.heap.size + 1 + 1, 0, none⟩), .string s, undef, undef, .string t, .bool false, .string t, .func (.func 54) #[] #[.pointer (some ⟨w.heap.size + 1 + 1 + 1, 0, none⟩), .pointer (some ⟨w.heap.size + 1 + 1 + 1 + 1, 0, none⟩)], .string s, undef, undef, undef, undef, undef, undef, undef, undef, undef, undef, undef, undef, undef, undef, undef, undef, undef], defers := [] }) ?_ ?_ ?_ ?_ ?_
    · rintro pre A ⟨o, _, _, _, k4, k5, _⟩
      exact ⟨k4, k5⟩
    · rintro s A A' row ⟨o, k0, k1, k2, k4, k5, k6, k7, k8⟩ hg hr
      exact ⟨o, at_turn k0 hg (fun r e => (hr r e).2), at_turn k1 hg (fun r e => (hr r e).2), at_turn k2 hg (fun r e => (hr r e).2), at_turn k4 hg (fun r e => (hr r e).2), at_turn k5 hg (fun r e => (hr r e).2), k6, row_turn k7 hg (fun r e => (hr r e).2), k8.trans (below_grown hg k8.size (fun g e => by have := (hr g e).1; omega))⟩
    · rintro c s A A' row ⟨h1, h2, k0, k1, k8⟩ hg hr
      exact ⟨h1, h2, at_turn k0 hg (fun r e => (hr r e).2), at_turn k1 hg (fun r e => (hr r e).2), k8.trans (below_grown hg k8.size (fun g e => by have := (hr g e).1; omega))⟩
    · exact ⟨_, x0, x1, x2, x4, x5, goodP_nil, ⟨rfl, .inl ⟨rfl, rfl⟩⟩, hB5⟩
    · rintro m a' s A A' row h hg hr
      exact h
    · intro l pre x W K hI hp hsz hK
      gi_wp2
      exact hK _ _ (KeepsNew.refl _ _) hI rfl
    · clear x0 x1 x2 x4 x5
      rintro l pre x a' W ⟨o, k0, k1, k2, k4, k5, k6, k7, k8⟩ rfl hp hsz
      have hxz : x.size ≤ 1048576 := Nat.le_trans (seq_mem hp) ht
      have hWs : w.heap.size + 5 ≤ W.heap.size := by omega
      have HSN := Lib.hid (goodP_snoc pre x)
      have HMP : Hid ((pre ++ [x]).map pS = pre.map pS ++ [pS x]) := by show _ = _; simp
      have hPL := goodP_len k6.out
      have hML : (pre.map pS).length = pre.length := by simp
      generalize pre.map pS = ys at *
      obtain ⟨A, cap, rfl, _⟩ := Rd.of_own k7
      rcases Bool.eq_false_or_eq_true (psG x) with hgx | hgx
      · have HPV := Lib.hid (psV_yes hgx (rfl : pS x = pS x))
        have HG := Lib.hid hgx
        generalize pS x = m at *
        obtain ⟨k, a, b⟩ := m
        clear hgx
        simp only at HPV
        by_cases h60 : ys.length = 60
        · have HNO : Hid (¬ goodP (pre ++ [x]) = true) := fun h => by have := (HSN.out.1 h).2.2; omega
          rw [h60] at k2 k7
          have e60 : ((60 : Nat) : Int) = 60 := rfl
          gi_wp2_with fail
          refine ⟨trivial, CallsIn.inRound l (callsIn_wide.2 ((parseStep_c x W hxz (hg.below k8)).mono ?_))⟩
          rintro e V2 ⟨rfl, hb2⟩
          rw [HPV.out]
          have hs2 := hb2.size
          have KF2 : KeepsFrom W5.heap.size W V2 := (KeepsNew.below hb2).from
          have hSz : (V2.alloc (.cells #[.int .i64 k, .string a, .string b] 49)).heap.size = V2.heap.size + 1 := by simp
          have B3 : Below V2.heap.size V2 (V2.alloc (.cells #[.int .i64 k, .string a, .string b] 49)) := (Below.refl _ _).alloc (Nat.le_refl _) _
          have KF4 := KF2.trans (KeepsNew.below B3).from
          replace k0 := (k0.keep hb2).keep B3
          replace k1 := (k1.keep hb2).keep B3
          replace k2 := (k2.keep hb2).keep B3
          replace k4 := (k4.keep hb2).keep B3
          replace k5 := (k5.keep hb2).keep B3
          replace k7 := own_keep (own_keep k7 hb2) B3
          replace k8 := (k8.trans (hb2.mono k8.size)).trans (B3.mono (by have := k8.size; omega))
          have mM := At.new V2 49 #[.int .i64 k, .string a, .string b]
          clear B3
          have c0 := k0.cell 0
          have f0 := k0.frozen 0
          have c1 := k1.cell 0
          have f1 := k1.frozen 0
          have c2 := k2.cell 0
          have g0 := grownBy_setCell' (V2.alloc (.cells #[.int .i64 k, .string a, .string b] 49)) w.heap.size (.slice none 0 0)
          have n0 : At ((V2.alloc (.cells #[.int .i64 k, .string a, .string b] 49)).setCell ⟨w.heap.size, 0, none⟩ (.slice none 0 0)) w.heap.size 23 #[.slice none 0 0] := k0.set 0 _
          have n1 := k1.grown g0 (by simp)
          have d1 := n1.cell 0
          have e1 := n1.frozen 0
          have g1 := grownBy_setCell' ((V2.alloc (.cells #[.int .i64 k, .string a, .string b] 49)).setCell ⟨w.heap.size, 0, none⟩ (.slice none 0 0)) (w.heap.size + 1) (.bool false)
          have p0 := n0.grown g1 (by simp)
          have p1 : At (((V2.alloc (.cells #[.int .i64 k, .string a, .string b] 49)).setCell ⟨w.heap.size, 0, none⟩ (.slice none 0 0)).setCell ⟨w.heap.size + 1, 0, none⟩ (.bool false)) (w.heap.size + 1) 4 #[.bool false] := n1.set 0 _
          have p8 := (k8.trans (below_grown g0 k8.size (fun g e => by cases e; omega))).trans (below_grown g1 (by have := k8.size; have := g0.size; omega) (fun g e => by cases e; omega))
          have pk := KF4.trans ((kf_grown (B := W5.heap.size) g0 (fun g o e hge _ => by cases e; omega)).trans (kf_grown (B := W5.heap.size) g1 (fun g o e hge _ => by cases e; omega)))
          clear k0 k1 k2 k4 k5 k7 k8 KF4 KF2 n0 n1 g0 g1 hb2 hSz
          gi_wp2
          exact ⟨pk, rfl, HNO.out, p0, p1, p8⟩
        · have HGN : Hid (goodP (pre ++ [x]) = true) := HSN.out.2 ⟨k6.out, HG.out, by omega⟩
          have q60 : ¬ ((ys.length : Int) = 60) := by omega
          have hyl : ys.length ≤ 60 := by omega
          clear hML hPL
          gi_wp2_with fail
          refine ⟨trivial, CallsIn.inRound l (callsIn_wide.2 ((parseStep_c x W hxz (hg.below k8)).mono ?_))⟩
          rintro e V2 ⟨rfl, hb2⟩
          rw [HPV.out]
          have hs2 := hb2.size
          have KF2 : KeepsFrom W5.heap.size W V2 := (KeepsNew.below hb2).from
          have hSz : (V2.alloc (.cells #[.int .i64 k, .string a, .string b] 49)).heap.size = V2.heap.size + 1 := by simp
          have B3 : Below V2.heap.size V2 (V2.alloc (.cells #[.int .i64 k, .string a, .string b] 49)) := (Below.refl _ _).alloc (Nat.le_refl _) _
          have KF4 := KF2.trans (KeepsNew.below B3).from
          replace k0 := (k0.keep hb2).keep B3
          replace k1 := (k1.keep hb2).keep B3
          replace k2 := (k2.keep hb2).keep B3
          replace k4 := (k4.keep hb2).keep B3
          replace k5 := (k5.keep hb2).keep B3
          replace k7 := own_keep (own_keep k7 hb2) B3
          replace k8 := (k8.trans (hb2.mono k8.size)).trans (B3.mono (by have := k8.size; omega))
          have mM := At.new V2 49 #[.int .i64 k, .string a, .string b]
          clear B3
          have c2 := k2.cell 0
          have cM0 := mM.cell 0
          have cM1 := mM.cell 1
          have cM2 := mM.cell 2
          have hs8 := k8.size
          have hnw := st_new (V2.alloc (.cells #[.int .i64 k, .string a, .string b] 49)) k a b
          clear hSz
          gi_wp2_with (gi_at_builtin; refine held ?_)
          unfold Held
          obtain ⟨V7, hV7⟩ : ∃ V7 : World, V7 = V2.alloc (.cells #[.int .i64 k, .string a, .string b] 49) := ⟨_, rfl⟩
          rw [← hV7] at k0 k1 k2 k4 k5 k7 k8 KF4 hnw hs8 ⊢
          have hz7 : V7.heap.size = V2.heap.size + 1 := by rw [hV7]; simp
          rw [hz7] at hnw
          clear hV7 c2 cM0 cM1 cM2 mM KF2
          refine listIn_st rfl (.tmp 25) (.tmp 27) rfl (W5.heap.size + 2) (.slice A ys.length cap) ys (k, a, b) ⟨V2.heap.size + 1, 0, none⟩ 1 (by rfl) (by rfl) (own_keep k7 ((Below.refl _ _).alloc (Nat.le_refl _) _)) hnw (by omega) (by simp; omega) ?_
          intro o' V9 hown9 hgrow9
          have Ba := (Below.refl V7.heap.size V7).alloc (Nat.le_refl _) (.cells #[.int .i64 k, .string a, .string b] 49)
          replace k0 := k0.keep Ba
          replace k1 := k1.keep Ba
          replace k2 := k2.keep Ba
          replace k4 := k4.keep Ba
          replace k5 := k5.keep Ba
          replace k7 := own_keep k7 Ba
          replace KF4 := KF4.trans ((KeepsNew.below Ba).from.trans (kf_grown hgrow9 (fun g o e _ h => own_cells k7 g o e h)))
          replace k8 := (k8.trans (Ba.mono k8.size)).trans (below_grown hgrow9 (by have := k8.size; simp; omega) (fun g hg => by have := own_block_ge k7 g hg; omega))
          have m0 := k0.grown hgrow9 (box_apart k7 k0 (by decide))
          have m1 := k1.grown hgrow9 (box_apart k7 k1 (by decide))
          have m2 := k2.grown hgrow9 (box_apart k7 k2 (by decide))
          have m4 := k4.grown hgrow9 (box_apart k7 k4 (by decide))
          have m5 := k5.grown hgrow9 (box_apart k7 k5 (by decide))
          have hs9 := hgrow9.size
          have hsa : (V7.alloc (.cells #[.int .i64 k, .string a, .string b] 49)).heap.size = V7.heap.size + 1 := by simp
          rw [hsa] at hs9
          have hne9 := box_apart hown9 m2 (by decide)
          have d1 := m2.cell 0
          have d2 := m2.frozen 0
          obtain ⟨A9, cap9, rfl, _⟩ := Rd.of_own hown9
          generalize ys ++ [(k, a, b)] = zs at *
          have gS := grownBy_setCell' V9 (w.heap.size + 1 + 1) (.slice A9 zs.length cap9)
          have n2 : At (V9.setCell ⟨w.heap.size + 1 + 1, 0, none⟩ (.slice A9 zs.length cap9)) (w.heap.size + 1 + 1) 23 #[.slice A9 zs.length cap9] := m2.set 0 _
          have n0 := m0.grown gS (by simp <;> omega)
          have n1 := m1.grown gS (by simp <;> omega)
          have n4 := m4.grown gS (by simp <;> omega)
          have n5 := m5.grown gS (by simp <;> omega)
          have n7 := own_grown hown9 gS (.inl hne9.symm)
          have KF9 := KF4.trans (kf_grown (B := W5.heap.size) gS (fun g o e hge _ => by cases e; omega))
          have k9 := k8.trans (below_grown gS (by have := k8.size; omega) (fun g e => by cases e; omega))
          clear k0 k1 k2 k4 k5 k7 KF4 m0 m1 m2 m4 m5 hnw hgrow9 Ba
          gi_wp2
          exact ⟨KF9, KeepsIn.zero (by have := gS.size; omega), _, n0, n1, n2, n4, n5, HGN, by rw [HMP.out]; exact n7, k9⟩
      · have HPV := Lib.hid (psV_no hgx)
        have HNO : Hid (¬ goodP (pre ++ [x]) = true) := fun h => by have := (HSN.out.1 h).2.1; rw [hgx] at this; cases this
        clear hgx
        gi_wp2_with fail
        refine ⟨trivial, CallsIn.inRound l (callsIn_wide.2 ((parseStep_c x W hxz (hg.below k8)).mono ?_))⟩
        rintro e V2 ⟨rfl, hb2⟩
        rw [HPV.out]
        have hs2 := hb2.size
        have KF2 : KeepsFrom W5.heap.size W V2 := (KeepsNew.below hb2).from
        have hSz : (V2.alloc (.cells #[.int .i64 0, .string ⟨#[]⟩, .string ⟨#[]⟩] 49)).heap.size = V2.heap.size + 1 := by simp
        have B3 : Below V2.heap.size V2 (V2.alloc (.cells #[.int .i64 0, .string ⟨#[]⟩, .string ⟨#[]⟩] 49)) := (Below.refl _ _).alloc (Nat.le_refl _) _
        have KF4 := KF2.trans (KeepsNew.below B3).from
        replace k0 := (k0.keep hb2).keep B3
        replace k1 := (k1.keep hb2).keep B3
        replace k2 := (k2.keep hb2).keep B3
        replace k4 := (k4.keep hb2).keep B3
        replace k5 := (k5.keep hb2).keep B3
        replace k7 := own_keep (own_keep k7 hb2) B3
        replace k8 := (k8.trans (hb2.mono k8.size)).trans (B3.mono (by have := k8.size; omega))
        have mM := At.new V2 49 #[.int .i64 0, .string ⟨#[]⟩, .string ⟨#[]⟩]
        clear B3
        have c0 := k0.cell 0
        have f0 := k0.frozen 0
        have c1 := k1.cell 0
        have f1 := k1.frozen 0
        have c2 := k2.cell 0
        have g0 := grownBy_setCell' (V2.alloc (.cells #[.int .i64 0, .string ⟨#[]⟩, .string ⟨#[]⟩] 49)) w.heap.size (.slice none 0 0)
        have n0 : At ((V2.alloc (.cells #[.int .i64 0, .string ⟨#[]⟩, .string ⟨#[]⟩] 49)).setCell ⟨w.heap.size, 0, none⟩ (.slice none 0 0)) w.heap.size 23 #[.slice none 0 0] := k0.set 0 _
        have n1 := k1.grown g0 (by simp)
        have d1 := n1.cell 0
        have e1 := n1.frozen 0
        have g1 := grownBy_setCell' ((V2.alloc (.cells #[.int .i64 0, .string ⟨#[]⟩, .string ⟨#[]⟩] 49)).setCell ⟨w.heap.size, 0, none⟩ (.slice none 0 0)) (w.heap.size + 1) (.bool false)
        have p0 := n0.grown g1 (by simp)
        have p1 : At (((V2.alloc (.cells #[.int .i64 0, .string ⟨#[]⟩, .string ⟨#[]⟩] 49)).setCell ⟨w.heap.size, 0, none⟩ (.slice none 0 0)).setCell ⟨w.heap.size + 1, 0, none⟩ (.bool false)) (w.heap.size + 1) 4 #[.bool false] := n1.set 0 _
        have p8 := (k8.trans (below_grown g0 k8.size (fun g e => by cases e; omega))).trans (below_grown g1 (by have := k8.size; have := g0.size; omega) (fun g e => by cases e; omega))
        have pk := KF4.trans ((kf_grown (B := W5.heap.size) g0 (fun g o e hge _ => by cases e; omega)).trans (kf_grown (B := W5.heap.size) g1 (fun g o e hge _ => by cases e; omega)))
        clear k0 k1 k2 k4 k5 k7 k8 KF4 KF2 n0 n1 g0 g1 hb2 hSz
        gi_wp2
        exact ⟨pk, rfl, HNO.out, p0, p1, p8⟩
    · intro D W hD hI hd
      obtain ⟨o, k0, k1, k2, k4, k5, k6, k7, k8⟩ := hI
      have HR1 : Hid (sqOk t = true) := by show _ = _; rw [HPC.out.1, k6.out]
      have HR2 : Hid (sqS t = (pcsB 59 t).map pS) := by show _ = _; rw [HPC.out.2, if_pos k6.out]
      generalize hnn : ((pcsB 59 t).map pS).length = nn at k7
      obtain ⟨A0, cap0, rfl, _⟩ := Rd.of_own k7
      have hWs := k8.size
      have c0 := k0.cell 0
      have f0 := k0.frozen 0
      have c2 := k2.cell 0
      have g0 := grownBy_setCell' W w.heap.size (.slice A0 nn cap0)
      have n0 : At (W.setCell ⟨w.heap.size, 0, none⟩ (.slice A0 nn cap0)) w.heap.size 23 #[.slice A0 nn cap0] := k0.set 0 _
      have n1 := k1.grown g0 (by simp)
      have d1 := n1.cell 0
      have e1 := n1.frozen 0
      have g1 := grownBy_setCell' (W.setCell ⟨w.heap.size, 0, none⟩ (.slice A0 nn cap0)) (w.heap.size + 1) (.bool true)
      have p0 := n0.grown g1 (by simp)
      have p1 : At ((W.setCell ⟨w.heap.size, 0, none⟩ (.slice A0 nn cap0)).setCell ⟨w.heap.size + 1, 0, none⟩ (.bool true)) (w.heap.size + 1) 4 #[.bool true] := n1.set 0 _
      have o1 := own_grown k7 g0 (.inl (box_apart k7 k0 (by decide)).symm)
      have o2 := own_more (own_grown o1 g1 (.inl (box_apart o1 n1 (by decide)).symm)) (show w.heap.size ≤ W5.heap.size + 2 by omega)
      have p8 := (k8.trans (below_grown g0 k8.size (fun g e => by cases e; omega))).trans (below_grown g1 (by have := g0.size; omega) (fun g e => by cases e; omega))
      have hd2 : ((W.setCell ⟨w.heap.size, 0, none⟩ (.slice A0 nn cap0)).setCell ⟨w.heap.size + 1, 0, none⟩ (.bool true)).heap[D]? = some (.deferred (some [])) :=
        (g1.block D (by have := (Array.getElem?_eq_some_iff.1 hd).1; have := g0.size; omega) (by simp; omega)).trans ((g0.block D (Array.getElem?_eq_some_iff.1 hd).1 (by simp; omega)).trans hd)
      clear k0 k1 k2 k4 k5 k6 k7 k8 n0 n1 g0 g1 o1
      gi_wp2
      refine ⟨by simp, .inl ⟨D, _, rfl, run_takeDeferred hd2, ?_⟩⟩
      have hrow : ∀ r, (some D : Option Nat) = some r → ∃ o' : Obj, ((W.setCell ⟨w.heap.size, 0, none⟩ (.slice A0 nn cap0)).setCell ⟨w.heap.size + 1, 0, none⟩ (.bool true)).heap[r]? = some o' ∧ o'.isCells = false := fun r e => by cases e; exact ⟨_, hd2, rfl⟩
      refine ⟨_, results_sq _ _ _ _ _ (at_turn p0 (grownBy_putObj' _ D _) hrow) (at_turn p1 (grownBy_putObj' _ D _) hrow) _ rfl rfl, .slice A0 nn cap0, by rw [HR1.out], by rw [HR2.out, hnn]; exact row_turn o2 (grownBy_putObj' _ D _) hrow, p8.trans ⟨rfl, rfl, rfl, by simp [World.putObj], fun k hk => World.putObj_heap_other (by omega)⟩⟩
    · rintro D c pre W hD hp ⟨rfl, hn, k0, k1, k8⟩ hd
      have hmv : goodP (pcsB 59 t) = false := by
        cases h : goodP (pcsB 59 t) with
        | false => rfl
        | true => exact absurd (goodP_prefix hp h) hn
      have HR1 : Hid (sqOk t = false) := by show _ = _; rw [HPC.out.1, hmv]
      have HR2 : Hid (sqS t = []) := by show _ = _; rw [HPC.out.2, hmv]; rfl
      have hWs := k8.size
      clear hmv
      gi_wp2
      refine ⟨by simp, .inl ⟨D, _, rfl, run_takeDeferred hd, ?_⟩⟩
      have hrow : ∀ r, (some D : Option Nat) = some r → ∃ o' : Obj, W.heap[r]? = some o' ∧ o'.isCells = false := fun r e => by cases e; exact ⟨_, hd, rfl⟩
      refine ⟨_, results_sq _ _ _ _ _ (at_turn k0 (grownBy_putObj' _ D _) hrow) (at_turn k1 (grownBy_putObj' _ D _) hrow) _ rfl rfl, .slice none 0 0, by rw [HR1.out], by rw [HR2.out]; exact ⟨rfl, .inl ⟨rfl, rfl⟩⟩, k8.trans ⟨rfl, rfl, rfl, by simp [World.putObj], fun k hk => World.putObj_heap_other (by omega)⟩⟩
end Go.Proofs.YtinggcjjdgibbabDoor
