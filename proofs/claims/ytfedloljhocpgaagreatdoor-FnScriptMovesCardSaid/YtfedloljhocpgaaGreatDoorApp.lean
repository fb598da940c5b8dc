import Derived.Test.YtfedloljhocpgaaGreatDoorIm2
import Derived.Test.YtfedloljhocpgaaGreatDoorSp1
import Derived.Test.YtfedloljhocpgaaGreatDoorHar
namespace Go.PM
open Go.RowKit
theorem own_block_ge {w : World} {base : Nat} {e : TypeId} {size n : Nat} {v : Value} {cs : List Value} (h : w.ownsRow base e size v n cs) : ∀ g, v.ownBlock = some g → base ≤ g := by
  intro g hg
  rcases h.2 with ⟨rfl, _⟩ | ⟨g', cap, cur, rfl, hb, _⟩
  · cases hg
  · cases hg; exact hb
theorem two_new (w : World) (a b : Value) (t : TypeId) : ∀ j u, [a, b][j]? = some u → (w.alloc (.cells #[a, b] t)).cell? ((⟨w.heap.size, 0, none⟩ : Addr).add j) = some u := by
  intro j u hj
  match j, hj with
  | 0, hj => simp at hj; subst hj; simp [Addr.add]
  | 1, hj => simp at hj; subst hj; simp [Addr.add]
def busyM (xs : List Mv) : List Mv := xs.filter fun m => decide (m.1 ≠ m.2)
theorem busyM_step (xs : List Mv) (k : Nat) (hk : k < xs.length) : busyM (xs.take (k+1)) = if xs[k].1 = xs[k].2 then busyM (xs.take k) else busyM (xs.take k) ++ [xs[k]] := by
  unfold busyM
  rw [take_snoc xs k hk, List.filter_append]
  by_cases h : xs[k].1 = xs[k].2
  · simp [h]
  · simp [h]
theorem busyM_le (xs : List Mv) : (busyM xs).length ≤ xs.length := List.length_filter_le _ _
def dropM (xs : List Mv) : List Mv := if mvalid xs then busyM xs else []
theorem own_more {w : World} {b b' : Nat} {e : TypeId} {s n : Nat} {v : Value} {cs : List Value} (h : w.ownsRow b e s v n cs) (hb : b' ≤ b) : w.ownsRow b' e s v n cs := by
  refine ⟨h.1, ?_⟩
  rcases h.2 with h' | ⟨g, cap, cur, rfl, hbg, hr⟩
  · exact .inl h'
  · exact .inr ⟨g, cap, cur, rfl, Nat.le_trans hb hbg, hr⟩
theorem own_grown {w w' : World} {b : Nat} {e : TypeId} {s n : Nat} {v : Value} {cs : List Value} {row : Option Nat} (h : w.ownsRow b e s v n cs) (hg : w.grownBy w' row) (hne : v.ownBlock ≠ row ∨ row = none) : w'.ownsRow b e s v n cs := by
  refine ⟨h.1, ?_⟩
  rcases h.2 with h' | ⟨g, cap, cur, rfl, hbg, hh, hr⟩
  · exact .inl h'
  · refine .inr ⟨g, cap, cur, rfl, hbg, ?_, hr⟩
    have hlt : g < w.heap.size := by
      rcases Nat.lt_or_ge g w.heap.size with hlt | hge
      · exact hlt
      · rw [Array.getElem?_eq_none hge] at hh; cases hh
    rw [hg.block g hlt ?_]; exact hh
    rcases hne with h1 | h1
    · exact h1
    · rw [h1]; simp
end Go.PM
namespace Go.Proofs.YtfedloljhocpgaaGreatDoor
open Go.RowKit Go.PM

theorem app_mv {ops : Array Oper} {rest : List Oper} {o : Oper} {a : Act} {Q : Exit → Act → World → Prop} {w : World} (hgd : o.guard = none) (s x : Operand)
    (ho : o.op = .call { callee := .builtin .append, args := #[s, x], argTypes := #[23, 23] })
    (base : Nat) (v : Value) (ys : List Mv) (m : Mv) (ad : Addr) (c : Nat) (hs : a.eval s = v) (hx : a.eval x = .slice (some ad) 1 c)
    (hown : w.ownsRow base 56 2 v ys.length (mcells ys)) (hnew : ∀ j u, [Value.string m.1, Value.string m.2][j]? = some u → w.cell? (ad.add j) = some u)
    (hlen : ys.length ≤ 1048576) (hbase : base ≤ w.heap.size)
    (h : ∀ v' w', w'.ownsRow base 56 2 v' (ys ++ [m]).length (mcells (ys ++ [m])) → w.grownBy w' v.ownBlock → wpList Tryz.prog ops Q rest (a.put o.dst v') w') : wpList Tryz.prog ops Q (o :: rest) a w := by
  obtain ⟨i0, hi0, hz0, hz1, hz2⟩ := info_parts infoMv
  refine wpList_append_own w hgd s x _ ho base 56 i0 _ 2 32 Tryz.underlying23 hi0 hz0 hz1 hz2 rfl (by omega) v ys.length (mcells ys) hs hown ad 1 c [Value.string m.1, Value.string m.2] hx rfl hnew
    (by intro u hu; simp at hu; rcases hu with rfl | rfl <;> rfl) (by simp only [maxLen]; omega) (by omega) hbase ?_
  intro v' w' h2 h3 _
  refine h v' w' ?_ h3
  rw [mcells_append, List.length_append]
  simpa [mcells] using h2

set_option maxRecDepth 100000 in
set_option maxHeartbeats 800000 in
theorem imDropIdle_c (xs : List Mv) (v : Value) (w : World) (hx : RdM w v xs) (hn' : xs.length ≤ 1048576) :
    Calls Tryz.prog 65 #[v] w fun e w' => ∃ v', e = .returned (.tuple #[v', .bool (mvalid xs)]) ∧ w'.ownsRow w.heap.size 56 2 v' (dropM xs).length (mcells (dropM xs)) ∧ Below w.heap.size w w' := by
  obtain ⟨A, cap, rfl, hn, hc, hcell⟩ := hx.open
  rcases Bool.eq_false_or_eq_true (mvalid xs) with h1 | h1
  · rw [h1, show dropM xs = busyM xs from if_pos h1]
    go_enter Tryz.func65, Tryz.ntmps65
    go_wp2_with fail
    refine (imMovesValid_c xs _ _ hx).mono ?_
    rintro e w1 ⟨he, hb1⟩
    rw [h1] at he
    subst he
    go_wp2
    go_loopw [4, 6, 12] (fun o _ i wr => ∃ (k : Nat), k ≤ xs.length ∧ i = .int .i64 k ∧ wr.ownsRow w.heap.size 56 2 o (busyM (xs.take k)).length (mcells (busyM (xs.take k))) ∧ Below w.heap.size w wr) (fun _ _ i _ => xs.length - (intOf i).toNat)
    case atStart => exact ⟨0, by omega, rfl, ⟨rfl, .inl ⟨rfl, rfl⟩⟩, hb1⟩
    case round =>
      obtain ⟨k, hk, rfl, ho, hb⟩ := hrel
      have hbs := hb.size
      by_cases hlt : k < xs.length
      · obtain ⟨b, off, rfl, hbl, hc1, hc2⟩ := hcell k hlt
        have hd1 := (hb.cell (p := ⟨b, off + k * 2, none⟩) hbl).trans hc1
        have hd2 := (hb.cell (p := ⟨b, off + k * 2 + 1, none⟩) hbl).trans hc2
        have hst := busyM_step xs k hlt
        have hle := busyM_le (xs.take k)
        rw [List.length_take] at hle
        rw [show xs[k] = (xs[k].1, xs[k].2) from rfl] at hst
        clear hc1 hc2 hcell
        generalize xs[k].1 = x1 at *
        generalize xs[k].2 = x2 at *
        have HST := Lib.hid hst
        clear hst
        have hnw := two_new (wr.alloc (.cells #[.string x1, .string x2] 56)) (.string x1) (.string x2) 56
        rw [World.size_alloc] at hnw
        go_wp2_with (at_builtin; refine app_mv rfl (.tmp 21) (.tmp 23) rfl w.heap.size u4 (busyM (xs.take k)) (x1, x2) ⟨wr.heap.size + 1, 0, none⟩ 1 (by rfl) (by rfl) ?hown ?hnew ?hlen ?hbase ?_; rotate_left 4; intro v' w3 hown3 hgrow3)
        case hown => exact (own_keep (own_keep ho ((Below.refl _ _).alloc (Nat.le_refl _) _)) ((Below.refl _ _).alloc (Nat.le_refl _) _))
        try case hnew => exact hnw
        case hlen => omega
        case hbase => simp; omega
        · have h : (!(x2.toList == x1.toList)) = true := by assumption
          rw [bne_str, decide_eq_true_eq] at h
          have hb3 := below_grown hgrow3 (B := w.heap.size) (by simp; omega) (own_block_ge ho)
          go_roundw
          case rel =>
            refine ⟨k + 1, by omega, by go_num, ?_, ?_⟩
            · rw [HST.out, if_neg (fun e => h e.symm)]; exact hown3
            · exact Below.trans (by (repeat' (first | (with_reducible exact Below.refl _ _) | (with_reducible assumption) | (with_reducible refine Below.alloc ?_ ?_ _) | (with_reducible refine Below.drew ?_) | (with_reducible refine Below.setCell ?_ ?_ _) | (with_reducible exact Nat.le_refl _) | omega | ((repeat (first | rewrite [World.size_alloc] | rewrite [World.size_setCell] | rewrite [World.size_drew])); omega) | (simp; omega) | (simp; done)))) hb3
          case measure => simp [intOf]; omega
        · have h : (!(x2.toList == x1.toList)) = false := by assumption
          rw [bne_str, decide_eq_false_iff_not, Classical.not_not] at h
          go_roundw
          case rel =>
            refine ⟨k + 1, by omega, by go_num, ?_, by (repeat' (first | (with_reducible exact Below.refl _ _) | (with_reducible assumption) | (with_reducible refine Below.alloc ?_ ?_ _) | (with_reducible refine Below.drew ?_) | (with_reducible refine Below.setCell ?_ ?_ _) | (with_reducible exact Nat.le_refl _) | omega | ((repeat (first | rewrite [World.size_alloc] | rewrite [World.size_setCell] | rewrite [World.size_drew])); omega) | (simp; omega) | (simp; done)))⟩
            rw [HST.out, if_pos h.symm]; exact own_keep ho ((Below.refl _ _).alloc (Nat.le_refl _) _)
          case measure => simp [intOf]; omega
      · have hk' : k = xs.length := by omega
        have ho2 := ho
        rw [hk', List.take_of_length_le (Nat.le_refl _)] at ho2
        clear hk'
        go_wp2
        go_ret2
        exact ⟨_, rfl, ho2, hb⟩
  · rw [h1, show dropM xs = [] from if_neg (by rw [h1]; decide)]
    go_enter Tryz.func65, Tryz.ntmps65
    go_wp2_with fail
    refine (imMovesValid_c xs _ _ hx).mono ?_
    rintro e w1 ⟨he, hb1⟩
    rw [h1] at he
    subst he
    go_wp2
    go_ret2
    exact ⟨_, rfl, ⟨rfl, .inl ⟨rfl, rfl⟩⟩, hb1⟩

end Go.Proofs.YtfedloljhocpgaaGreatDoor

