import Derived.Test.YtnhncbhhlbcieaaGreatSlP
import Derived.Test.YtnhncbhhlbcieaaGreatTurn
import Derived.Test.YtnhncbhhlbcieaaGreatHold
import Derived.Test.YtnhncbhhlbcieaaGreatStpL
import Derived.Test.YtnhncbhhlbcieaaGreatHar2
namespace Go.PD
open Go.PM Go.RowKit
theorem scells_oneP (xs : List St) : ∀ u ∈ scells xs, u.oneCell' = true := by
  intro u hu
  unfold scells at hu
  obtain ⟨x, _, hx⟩ := List.mem_flatMap.1 hu
  simp at hx
  rcases hx with rfl | rfl | rfl <;> rfl
theorem cells_new (w : World) (cs : Array Value) (t : TypeId) : ∀ (j : Nat) u, cs.toList[j]? = some u → (w.alloc (.cells cs t)).cell? ((⟨w.heap.size, 0, none⟩ : Addr).add j) = some u := by
  intro j u hu
  rw [show (⟨w.heap.size, 0, none⟩ : Addr).add j = ⟨w.heap.size, j, none⟩ by unfold Addr.add; split <;> simp_all]
  rw [(At.new w t cs).cell j]
  simpa using hu
end Go.PD
namespace Go.Proofs.YtnhncbhhlbcieaaGreat
open Go.RowKit Go.PM Go.PD Go.Lib
attribute [local go_sem] Oper.semAt_some

theorem infoStS : (Tryz.prog.info? 58).map (fun i => (i.zero, i.size, i.bytes)) = some (some (.agg #[.int .i64 0, .string ⟨#[]⟩, .string ⟨#[]⟩]), 3, 40) := by kernel_rfl
/-- append of some steps that have just been laid -/
theorem app_sts {ops : Array Oper} {rest : List Oper} {o : Oper} {a : Act} {Q : Exit → Act → World → Prop} {w : World} (hgd : o.guard = none) (s x : Operand)
    (ho : o.op = .call { callee := .builtin .append, args := #[s, x], argTypes := #[23, 23] })
    (base : Nat) (v : Value) (ys zs : List St) (ad : Addr) (c m : Nat) (hm : m = zs.length) (hm0 : 0 < m) (hs : a.eval s = v) (hx : a.eval x = .slice (some ad) m c)
    (hown : w.ownsRow base 58 3 v ys.length (scells ys)) (hnew : ∀ j u, (scells zs)[j]? = some u → w.cell? (ad.add j) = some u)
    (hlen : ys.length + zs.length ≤ 4194304) (hbase : base ≤ w.heap.size)
    (h : ∀ v' w', w'.ownsRow base 58 3 v' (ys ++ zs).length (scells (ys ++ zs)) → w.grownBy w' v.ownBlock → wpList Tryz.prog ops Q rest (a.put o.dst v') w') : wpList Tryz.prog ops Q (o :: rest) a w := by
  subst hm
  obtain ⟨i0, hi0, hz0, hz1, hz2⟩ := info_parts infoStS
  refine wpList_append_own w hgd s x _ ho base 58 i0 _ 3 40 Tryz.underlying23 hi0 hz0 hz1 hz2 rfl (by omega) v ys.length (scells ys) hs hown ad zs.length c (scells zs) hx (scells_length zs) hnew
    (scells_oneP zs) (by simp only [maxLen]; omega) (by omega) hbase ?_
  intro v' w' h2 h3 _
  refine h v' w' ?_ h3
  rw [List.length_append, scells_append]
  exact h2
theorem listIn_sts {F : Fence} {k : Nat} {ops : Array Oper} {rest : List Oper} {o : Oper} {a : Act} {Q : Exit → Act → World → Prop} {w : World} (hgd : o.guard = none) (s x : Operand)
    (ho : o.op = .call { callee := .builtin .append, args := #[s, x], argTypes := #[23, 23] })
    (base : Nat) (v : Value) (ys zs : List St) (ad : Addr) (c m : Nat) (hm : m = zs.length) (hm0 : 0 < m) (hs : a.eval s = v) (hx : a.eval x = .slice (some ad) m c)
    (hown : w.ownsRow base 58 3 v ys.length (scells ys)) (hnew : ∀ j u, (scells zs)[j]? = some u → w.cell? (ad.add j) = some u)
    (hlen : ys.length + zs.length ≤ 4194304) (hbase : base ≤ w.heap.size)
    (h : ∀ v' w', w'.ownsRow base 58 3 v' (ys ++ zs).length (scells (ys ++ zs)) → w.grownBy w' v.ownBlock → wpListIn F k Tryz.prog ops Q rest (a.put o.dst v') w') : wpListIn F k Tryz.prog ops Q (o :: rest) a w := by
  subst hm
  obtain ⟨i0, hi0, hz0, hz1, hz2⟩ := info_parts infoStS
  refine wpListIn_append_own w hgd s x _ ho base 58 i0 _ 3 40 Tryz.underlying23 hi0 hz0 hz1 hz2 rfl (by omega) v ys.length (scells ys) hs hown ad zs.length c (scells zs) hx (scells_length zs) hnew
    (scells_oneP zs) (by simp only [maxLen]; omega) (by omega) hbase ?_
  intro v' w' h2 h3 _
  refine h v' w' ?_ h3
  rw [List.length_append, scells_append]
  exact h2
theorem sliceIn_st2 {F : Fence} {n : Nat} {o : Oper} {a : Act} {w : World} {K : Act → World → Prop} {Q : Exit → Act → World → Prop} (x y : Operand) (ho : o.op = .buildSlice 23 2 #[(0, x), (1, y)]) (k k' : Int) (s t s' t' : ByteArray)
    (hx : a.eval x = .agg #[.int .i64 k, .string s, .string t]) (hy : a.eval y = .agg #[.int .i64 k', .string s', .string t'])
    (h : K (a.put o.dst (.slice (some ⟨w.heap.size, 0, none⟩) 2 2)) (w.alloc (.cells #[.int .i64 k, .string s, .string t, .int .i64 k', .string s', .string t'] 58))) : o.wpIn F n Tryz.prog a w K Q := by
  obtain ⟨i0, hi0, hz0, hz1, hz2⟩ := info_parts infoStS
  refine sliceIn 23 58 2 #[(0, x), (1, y)] ho #[.int .i64 k, .string s, .string t, .int .i64 k', .string s', .string t'] i0 _ Tryz.underlying23 hi0 hz0 (by rw [hz1]; decide) (by rw [hz1]; decide) ?_ h
  have hr : Array.range 6 = #[0, 1, 2, 3, 4, 5] := by decide
  simp [hx, hy, hz1, Instr.fill, Value.cells, hr]

theorem l8Slot_c (s : ByteArray) (w : World) :
    Calls Tryz.prog 34 #[.string s] w fun e w' => e = .returned (.bool (slB s)) ∧ w = w' := by
  by_cases h1 : s.size = 1
  · obtain ⟨c, rfl⟩ := one_of_size h1
    have hm := indexByte_mem slotsL c
    have HI : Hid (slB ⟨#[c]⟩ = decide (0 ≤ indexByte slotsL c)) := by show _ = _; simp [slB, hm]
    clear h1 hm
    go_enter Tryz.func34, Tryz.ntmps34
    go_wp2_with (go_at_call 51; refine (l13Find_c _ c _ (by decide)).mono ?_; rintro e w' ⟨rfl, rfl⟩)
    go_ret
    exact ⟨by rw [HI.out]; rfl, rfl⟩
  · have h2 : ((s.size : Int) == 1) = false := by simp; omega
    have HI : Hid (slB s = false) := slB_no h1
    clear h1
    go_enter Tryz.func34, Tryz.ntmps34
    go_wp2
    go_ret
    exact ⟨by rw [HI.out]; rfl, rfl⟩
set_option maxHeartbeats 800000 in
theorem l8Far_c (k : Int) (a b : ByteArray) (w : World) :
    Calls Tryz.prog 67 #[.agg #[.int .i64 k, .string a, .string b]] w fun e w' => e = .returned (.bool (far (k, a, b))) ∧ Below w.heap.size w w' := by
  have HA := Lib.hid (fun W => l8Slot_c a W)
  have HB := Lib.hid (fun W => l8Slot_c b W)
  have HF1 := Lib.hid (far_swap a b)
  have HF2 := Lib.hid (fun h => far_move k a b h)
  have hB0 : Below w.heap.size w (w.alloc (.cells #[.int .i64 k, .string a, .string b] 58)) := (Below.refl _ _).alloc (Nat.le_refl _) _
  generalize slB a = ba at *
  generalize slB b = bb at *
  by_cases h1 : k = 1
  · subst h1
    cases ba
    all_goals
      go_enter Tryz.func67, Tryz.ntmps67
      go_wp2_with (first | (go_at_call 34; with_reducible refine (HA.out _).mono ?_; rintro e w' ⟨rfl, rfl⟩) | (go_at_call 34; with_reducible refine (HB.out _).mono ?_; rintro e w' ⟨rfl, rfl⟩))
      go_ret
      exact ⟨by rw [HF1.out]; rfl, hB0⟩
  · have t1 : (k == 1) = false := by simpa using h1
    have HFF := Lib.hid (HF2.out h1)
    clear h1
    cases ba
    all_goals
      go_enter Tryz.func67, Tryz.ntmps67
      go_wp2_with (first | (go_at_call 34; with_reducible refine (HA.out _).mono ?_; rintro e w' ⟨rfl, rfl⟩) | (go_at_call 34; with_reducible refine (HB.out _).mono ?_; rintro e w' ⟨rfl, rfl⟩))
      go_ret
      exact ⟨by rw [HFF.out]; rfl, hB0⟩
set_option maxHeartbeats 800000 in
theorem l8Move_c (a b : ByteArray) (w : World) :
    Calls Tryz.prog 68 #[.string a, .string b] w fun e w' => e = .returned (.agg #[.int .i64 0, .string a, .string b]) ∧ Below w.heap.size w w' := by
  have hA := At.new w 58 #[.int .i64 0, .string ⟨#[]⟩, .string ⟨#[]⟩]
  have q1 := hA.cell 0
  have q2 := hA.cell 1
  have q3 := hA.cell 2
  clear hA
  go_enter Tryz.func68, Tryz.ntmps68
  go_wp2
  refine bodyPost_ret (v := .agg #[.int .i64 0, .string a, .string b]) (by simp [results, Tryz.results68, go_sem]) rfl ⟨rfl, ?_⟩
  (repeat' (first | (with_reducible exact Below.refl _ _) | (with_reducible assumption) | (with_reducible refine Below.alloc ?_ ?_ _) | (with_reducible refine Below.drew ?_) | (with_reducible refine Below.setCell ?_ ?_ _) | (with_reducible exact Nat.le_refl _) | omega | ((repeat (first | rewrite [World.size_alloc] | rewrite [World.size_setCell] | rewrite [World.size_drew])); omega) | (simp; omega) | (simp; done)))
end Go.Proofs.YtnhncbhhlbcieaaGreat
