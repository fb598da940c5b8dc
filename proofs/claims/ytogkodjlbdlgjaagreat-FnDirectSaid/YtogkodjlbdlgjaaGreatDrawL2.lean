import Derived.Test.YtogkodjlbdlgjaaGreatDrawS
import Derived.Test.YtogkodjlbdlgjaaGreatP2
import Derived.Test.YtogkodjlbdlgjaaGreatColl
import Derived.Test.YtogkodjlbdlgjaaGreatCopy
namespace Go.PM
open Go.RowKit
def strOkC (n : Nat) : Value → Bool
  | .string s => decide (1 ≤ s.size) && decide (s.size ≤ n) && (List.range s.size).all fun J => isC (s.extract J (J + 1))
  | _ => false
theorem Lits.strsC (w : World) (t : TypeId) (cs : Array Value) (n : Nat) (h : cs.toList.all (strOkC n) = true) : Lits (w.alloc (.cells cs t)) w.heap.size cs.size (fun u => ∃ s, u = .string s ∧ 1 ≤ s.size ∧ s.size ≤ n ∧ ∀ J, J < s.size → isC (s.extract J (J + 1)) = true) :=
  Lits.new w t cs _ fun u hu => by
    have h2 := List.all_eq_true.1 h u hu
    unfold strOkC at h2
    split at h2
    · rw [Bool.and_eq_true, Bool.and_eq_true, decide_eq_true_eq, decide_eq_true_eq, List.all_eq_true] at h2
      exact ⟨_, rfl, h2.1.1, h2.1.2, fun J hJ => h2.2 J (List.mem_range.2 hJ)⟩
    · cases h2
/-- the digits, and their texts -/
def dg (n : Nat) : ByteArray := ⟨#[UInt8.ofNat (48 + n)]⟩
theorem dg_isD {n : Nat} (h : n < 10) : isD (dg n) = true := by
  match n, h with
  | 0, _ | 1, _ | 2, _ | 3, _ | 4, _ | 5, _ | 6, _ | 7, _ | 8, _ | 9, _ => decide +kernel
theorem own_take {w : World} {base n k : Nat} {e : TypeId} {A : Option Addr} {cap : Nat} {xs : List St} (h : w.ownsRow base e 3 (.slice A n cap) xs.length (scells xs)) (hk : k ≤ xs.length) : w.ownsRow base e 3 (.slice A k cap) k (scells (xs.take k)) := by
  have hs : (scells (xs.take k)).length = k * 3 := by rw [scells_length, List.length_take, Nat.min_eq_left hk]
  refine ⟨hs, ?_⟩
  rcases h.2 with ⟨e1, e2⟩ | ⟨g, cap', cur, e1, h1, h2, h3, h4, h5, h6⟩
  · cases e1
    left
    refine ⟨?_, by omega⟩
    rw [show k = 0 by omega]
  · cases e1
    right
    refine ⟨g, _, cur, rfl, h1, h2, by omega, h4, h5, ?_⟩
    have e3 : scells xs = scells (xs.take k) ++ scells (xs.drop k) := by rw [← scells_append, List.take_append_drop]
    have e2 : scells (xs.take k) = (scells xs).take (k * 3) := by
      rw [e3]; exact (List.take_left' hs).symm
    rw [e2, ← h6, List.take_take, Nat.min_eq_left (by omega)]
def shS (m : Nat) (xs : List St) : Prop := xs.length ≤ m ∧ ∀ x ∈ xs, x.2.1.size ≤ 64 ∧ x.2.2.size ≤ 64
def okL (xs : List St) : Prop := ∀ x ∈ xs, stOk x = true
theorem okL_sh {m : Nat} {xs : List St} (h : okL xs) (hl : xs.length ≤ m) : shS m xs := by
  refine ⟨hl, fun x hx => ?_⟩
  have h1 := h x hx
  unfold stOk at h1
  rw [Bool.or_eq_true] at h1
  rcases h1 with h1 | h1
  · simp only [Bool.and_eq_true, Bool.or_eq_true] at h1
    have a := isC_size h1.2.1
    rcases h1.2.2 with h2 | h2
    · have b := isC_size h2; omega
    · have b := isD_size h2; omega
  · simp only [Bool.and_eq_true] at h1
    have a := isC_size h1.2.1
    have b := isC_size h1.2.2
    omega
theorem three_at {w : World} {g : Nat} {t : TypeId} {x y z : Value} (h : At w g t #[x, y, z]) : w.cell? ⟨g, 0, none⟩ = some x ∧ w.cell? ⟨g, 1, none⟩ = some y ∧ w.cell? ⟨g, 2, none⟩ = some z := ⟨h.cell 0, h.cell 1, h.cell 2⟩
end Go.PM
namespace Go.Proofs.YtogkodjlbdlgjaaGreat
open Go.RowKit Go.PM
attribute [local go_sem] Oper.semAt_some

theorem infoSt2 : (Tryz.prog.info? 33).map (fun i => (i.zero, i.size, i.bytes)) = some (some (.agg #[.int .i64 0, .string ⟨#[]⟩, .string ⟨#[]⟩]), 3, 40) := by kernel_rfl
theorem app_st {ops : Array Oper} {rest : List Oper} {o : Oper} {a : Act} {Q : Exit → Act → World → Prop} {w : World} (hgd : o.guard = none) (s x : Operand)
    (ho : o.op = .call { callee := .builtin .append, args := #[s, x], argTypes := #[25, 25] })
    (base : Nat) (v : Value) (ys : List St) (m : St) (ad : Addr) (c : Nat) (hs : a.eval s = v) (hx : a.eval x = .slice (some ad) 1 c)
    (hown : w.ownsRow base 33 3 v ys.length (scells ys)) (hnew : ∀ j u, [Value.int .i64 m.1, Value.string m.2.1, Value.string m.2.2][j]? = some u → w.cell? (ad.add j) = some u)
    (hlen : ys.length ≤ 1048576) (hbase : base ≤ w.heap.size)
    (h : ∀ v' w', w'.ownsRow base 33 3 v' (ys ++ [m]).length (scells (ys ++ [m])) → w.grownBy w' v.ownBlock → wpList Tryz.prog ops Q rest (a.put o.dst v') w') : wpList Tryz.prog ops Q (o :: rest) a w := by
  obtain ⟨i0, hi0, hz0, hz1, hz2⟩ := info_parts infoSt2
  refine wpList_append_own w hgd s x _ ho base 33 i0 _ 3 40 Tryz.underlying25 hi0 hz0 hz1 hz2 rfl (by omega) v ys.length (scells ys) hs hown ad 1 c [Value.int .i64 m.1, Value.string m.2.1, Value.string m.2.2] hx rfl hnew
    (by intro u hu; simp at hu; rcases hu with rfl | rfl | rfl <;> rfl) (by simp only [maxLen]; omega) (by omega) hbase ?_
  intro v' w' h2 h3 _
  refine h v' w' ?_ h3
  have hcs : scells ys ++ [Value.int .i64 m.1, Value.string m.2.1, Value.string m.2.2] = scells (ys ++ [m]) := by rw [scells_append]; simp [scells]
  rw [← hcs, List.length_append]
  simpa using h2
theorem own_block_lt {w : World} {base n : Nat} {e : TypeId} {s : Nat} {v : Value} {cs : List Value} (h : w.ownsRow base e s v n cs) : ∀ g, v.ownBlock = some g → g < w.heap.size := by
  intro g hg
  rcases h.2 with ⟨rfl, _⟩ | ⟨g', cap, cur, rfl, _, hh, _⟩
  · cases hg
  · cases hg
    exact (Array.getElem?_eq_some_iff.1 hh).1
/-- a step in a block of its own, and what is known of the rest -/
def StepIn (w W : World) (sb B r : Nat) (u3 : Value) (xs : List St) (q : Int) (y : Int) (a b : ByteArray) : Prop :=
  At W sb 33 #[.int .i64 y, .string a, .string b] ∧ Rdr W 73 B r q ∧ W.ownsRow w.heap.size 33 3 u3 xs.length (scells xs) ∧ w.grownBy W (some r) ∧ r < sb ∧ w.heap.size ≤ sb ∧ u3.ownBlock ≠ some sb
theorem stepIn_new {w w6 : World} {B r : Nat} {u3 : Value} {xs : List St} {q : Int} (y : Int) (a b : ByteArray) (h : Rdr w6 73 B r q ∧ w6.ownsRow w.heap.size 33 3 u3 xs.length (scells xs) ∧ w.grownBy w6 (some r)) :
    StepIn w (w6.alloc (.cells #[.int .i64 y, .string a, .string b] 33)) w6.heap.size B r u3 xs q y a b := by
  have hb : Below w6.heap.size w6 (w6.alloc (.cells #[.int .i64 y, .string a, .string b] 33)) := (Below.refl _ _).alloc (Nat.le_refl _) _
  exact ⟨At.new _ _ _, h.1.keep hb, own_keep h.2.1 hb, grown_trans h.2.2 (grown_below hb (some r)), by obtain ⟨_, _, v, n, _, _, h⟩ := h.1; exact h.lt, h.2.2.size, fun e => by have := own_block_lt h.2.1 _ e; omega⟩
theorem stepIn_set {w w6 : World} {sb B r : Nat} {u3 : Value} {xs : List St} {q y0 : Int} {a0 b0 : ByteArray} (y : Int) (a b : ByteArray) (h : StepIn w w6 sb B r u3 xs q y0 a0 b0) :
    StepIn w (((w6.setCell ⟨sb, 0, none⟩ (.int .i64 y)).setCell ⟨sb, 1, none⟩ (.string a)).setCell ⟨sb, 2, none⟩ (.string b)) sb B r u3 xs q y a b := by
  obtain ⟨h1, h2, h3, h4, h5, h6, h7⟩ := h
  have g1 := grown_set w6 sb 0 (.int .i64 y)
  have g2 := grown_set (w6.setCell ⟨sb, 0, none⟩ (.int .i64 y)) sb 1 (.string a)
  have g3 := grown_set ((w6.setCell ⟨sb, 0, none⟩ (.int .i64 y)).setCell ⟨sb, 1, none⟩ (.string a)) sb 2 (.string b)
  have g := grown_trans (grown_trans g1 g2) g3
  refine ⟨?_, h2.grow g (fun g e => by cases e; exact h5), own_grown h3 g (.inl h7), grown_over h4 g (fun g e => by cases e; exact h6), h5, h6, h7⟩
  have := ((h1.set 0 (.int .i64 y)).set 1 (.string a)).set 2 (.string b)
  simpa using this
theorem stepIn_from {w w6 : World} {sb B r : Nat} {u3 : Value} {xs : List St} {q y0 : Int} {a0 b0 : ByteArray} (b : ByteArray) (h : StepIn w w6 sb B r u3 xs q y0 a0 b0) :
    StepIn w (w6.setCell ⟨sb, 2, none⟩ (.string b)) sb B r u3 xs q y0 a0 b := by
  obtain ⟨h1, h2, h3, h4, h5, h6, h7⟩ := h
  have g := grown_set w6 sb 2 (.string b)
  refine ⟨?_, h2.grow g (fun g e => by cases e; exact h5), own_grown h3 g (.inl h7), grown_over h4 g (fun g e => by cases e; exact h6), h5, h6, h7⟩
  have := h1.set 2 (.string b)
  simpa using this
theorem stepIn_pick {w w6 w7 : World} {sb B r : Nat} {u3 : Value} {xs : List St} {q q' y0 : Int} {a0 b0 : ByteArray} (hlt : r < w.heap.size) (h : StepIn w w6 sb B r u3 xs q y0 a0 b0) (hg : w6.grownBy w7 (some r)) (hR : Rdr w7 73 B r q') : StepIn w w7 sb B r u3 xs q' y0 a0 b0 := by
  obtain ⟨h1, h2, h3, h4, h5, h6, h7⟩ := h
  have hne : u3.ownBlock ≠ some r := fun e => by have := own_block_ge h3 r e; omega
  exact ⟨h1.grown hg (fun e => by have := Option.some.inj e; omega), hR, own_grown h3 hg (.inl hne), grown_trans h4 hg, h5, h6, h7⟩
theorem stepIn_below {w w6 w7 : World} {sb B r : Nat} {u3 : Value} {xs : List St} {q y0 : Int} {a0 b0 : ByteArray} (h : StepIn w w6 sb B r u3 xs q y0 a0 b0) (hb : Below w6.heap.size w6 w7) : StepIn w w7 sb B r u3 xs q y0 a0 b0 := by
  obtain ⟨h1, h2, h3, h4, h5, h6, h7⟩ := h
  exact ⟨h1.keep hb, h2.keep hb, own_keep h3 hb, grown_trans h4 (grown_below hb (some r)), h5, h6, h7⟩
theorem okL_snoc {xs : List St} {x : St} (h : okL xs) (hx : stOk x = true) : okL (xs ++ [x]) := by
  intro y hy
  rcases List.mem_append.1 hy with h1 | h1
  · exact h y h1
  · rw [List.mem_singleton] at h1; rw [h1]; exact hx
end Go.Proofs.YtogkodjlbdlgjaaGreat
