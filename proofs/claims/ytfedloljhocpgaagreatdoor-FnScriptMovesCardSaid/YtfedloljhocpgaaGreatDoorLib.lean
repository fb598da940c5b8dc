import Derived.WalkKit
import Derived.WalkSpells
import Derived.WalkLawsBesides
import Derived.Lib.Hide
import Derived.StillTailTactics
import Derived.Deep.RegionHeld3
import Derived.Deep.DeepCutAuto
import Derived.Deep.QuietTactic
import Derived.BigQuiet
import Derived.Deep.AppendLies
namespace Go.PM
open Go.RowKit

abbrev Mv := ByteArray × ByteArray
def mcells (xs : List Mv) : List Value := xs.flatMap fun m => [.string m.1, .string m.2]
theorem mcells_length (xs : List Mv) : (mcells xs).length = xs.length * 2 := by
  induction xs with
  | nil => rfl
  | cons x xs ih => simp only [mcells, List.flatMap_cons, List.length_append] at *; simp only [List.length_cons, List.length_nil]; omega
theorem mcells_append (xs ys : List Mv) : mcells (xs ++ ys) = mcells xs ++ mcells ys := by simp [mcells]
theorem mcells_cons (x : Mv) (xs : List Mv) : mcells (x :: xs) = .string x.1 :: .string x.2 :: mcells xs := by simp [mcells]
theorem mcells_at (xs : List Mv) (k : Nat) (m : Mv) (h : xs[k]? = some m) : (mcells xs)[k*2]? = some (.string m.1) ∧ (mcells xs)[k*2+1]? = some (.string m.2) := by
  induction xs generalizing k with
  | nil => simp at h
  | cons x xs ih =>
    rw [mcells_cons]
    cases k with
    | zero => simp at h; subst h; simp
    | succ k =>
      have := ih k (by simpa using h)
      rw [show (k+1)*2 = k*2+1+1 by omega]
      simpa using this

def Rd (w : World) (size : Nat) (v : Value) (n : Nat) (cs : List Value) : Prop :=
  ∃ A cap, v = .slice A n cap ∧ n ≤ cap ∧ n ≤ 9223372036854775807 ∧ cs.length = n * size ∧ (0 < n → ∃ b off, A = some ⟨b, off, none⟩ ∧ b < w.heap.size ∧ ∀ j u, cs[j]? = some u → w.cell? ⟨b, off + j, none⟩ = some u)

section
variable {w w' : World} {size n : Nat} {v : Value} {cs : List Value}
theorem Rd.keep (h : Rd w size v n cs) (hs : w.heap.size ≤ w'.heap.size) (hk : ∀ p : Addr, p.block < w.heap.size → w'.cell? p = w.cell? p) : Rd w' size v n cs := by
  obtain ⟨A, cap, e, hc, hn, hl, hr⟩ := h
  refine ⟨A, cap, e, hc, hn, hl, fun h0 => ?_⟩
  obtain ⟨b, off, eA, hb, hcell⟩ := hr h0
  exact ⟨b, off, eA, by omega, fun j u hu => (hk _ hb).trans (hcell j u hu)⟩
theorem Rd.below (h : Rd w size v n cs) (hb : Below w.heap.size w w') : Rd w' size v n cs := h.keep hb.size fun _ hp => hb.cell hp
theorem Rd.alloc (h : Rd w size v n cs) (o : Obj) : Rd (w.alloc o) size v n cs := h.below ((Below.refl _ _).alloc (Nat.le_refl _) _)
theorem Rd.drew (h : Rd w size v n cs) : Rd w.drew size v n cs := h
theorem Rd.len (h : Rd w size v n cs) : n ≤ 9223372036854775807 := by obtain ⟨A, cap, e, hc, hn, _⟩ := h; exact hn
theorem Rd.of_own {base : Nat} {e : TypeId} (h : w.ownsRow base e size v n cs) : Rd w size v n cs := by
  rcases h.2 with ⟨rfl, rfl⟩ | ⟨g, cap, cur, rfl, hb, hg, hnc, hcm, hcs, htake⟩
  · exact ⟨none, 0, rfl, by omega, by omega, h.1, by omega⟩
  · have hm : maxLen = 9223372036854775807 := rfl
    refine ⟨some ⟨g, 0, none⟩, cap, rfl, hnc, by omega, h.1, fun _ => ⟨g, 0, rfl, ?_, fun j u hu => ?_⟩⟩
    · rcases Nat.lt_or_ge g w.heap.size with hlt | hge
      · exact hlt
      · rw [Array.getElem?_eq_none hge] at hg; cases hg
    · have := h.cells (g := g) rfl j u hu
      rw [← this]; congr 1
      unfold Addr.add; split
      · next h0 => subst h0; rfl
      · rfl
end

def RdM (w : World) (v : Value) (xs : List Mv) : Prop := Rd w 2 v xs.length (mcells xs)
theorem RdM.below {w w' : World} {v : Value} {xs : List Mv} (h : RdM w v xs) (hb : Below w.heap.size w w') : RdM w' v xs := Rd.below h hb
theorem RdM.open {w : World} {v : Value} {xs : List Mv} (h : RdM w v xs) : ∃ A cap, v = .slice A xs.length cap ∧ xs.length ≤ 9223372036854775807 ∧ xs.length ≤ cap ∧
    ∀ k (hk : k < xs.length), ∃ b off, A = some ⟨b, off, none⟩ ∧ b < w.heap.size ∧ w.cell? ⟨b, off + k * 2, none⟩ = some (.string xs[k].1) ∧ w.cell? ⟨b, off + k * 2 + 1, none⟩ = some (.string xs[k].2) := by
  obtain ⟨A, cap, e, hc, hn, hl, hr⟩ := h
  refine ⟨A, cap, e, hn, hc, fun k hk => ?_⟩
  obtain ⟨b, off, eA, hb, hcell⟩ := hr (by omega)
  have := mcells_at xs k xs[k] (List.getElem?_eq_getElem hk)
  exact ⟨b, off, eA, hb, hcell _ _ this.1, by rw [Nat.add_assoc]; exact hcell _ _ this.2⟩
def msize : List Mv → Nat
  | [] => 0
  | x :: xs => x.1.size + x.2.size + 1 + msize xs
theorem msize_len (xs : List Mv) : xs.length ≤ msize xs := by
  induction xs with
  | nil => simp [msize]
  | cons x xs ih => simp only [msize, List.length_cons]; omega
theorem take_snoc {α : Type _} (xs : List α) (k : Nat) (hk : k < xs.length) : xs.take (k+1) = xs.take k ++ [xs[k]] := by
  rw [List.take_succ_eq_append_getElem hk]
theorem own_keep {w w' : World} {base : Nat} {e : TypeId} {size n : Nat} {v : Value} {cs : List Value} (h : w.ownsRow base e size v n cs) (hb : Below w.heap.size w w') : w'.ownsRow base e size v n cs := by
  refine ⟨h.1, ?_⟩
  rcases h.2 with h' | ⟨g, cap, cur, rfl, hbg, hg, hr⟩
  · exact .inl h'
  · refine .inr ⟨g, cap, cur, rfl, hbg, ?_, hr⟩
    rw [hb.block g ?_]; exact hg
    rcases Nat.lt_or_ge g w.heap.size with hlt | hge
    · exact hlt
    · rw [Array.getElem?_eq_none hge] at hg; cases hg
theorem own_lt {w : World} {base : Nat} {e : TypeId} {size g n cap : Nat} {off : Nat} {cs : List Value} (h : w.ownsRow base e size (.slice (some ⟨g, off, none⟩) n cap) n cs) : g < w.heap.size ∧ base ≤ g := by
  rcases h.2 with ⟨h', _⟩ | ⟨g', cap', cur, h', hbg, hg, hr⟩
  · cases h'
  · cases h'
    refine ⟨?_, hbg⟩
    rcases Nat.lt_or_ge g w.heap.size with hlt | hge
    · exact hlt
    · rw [Array.getElem?_eq_none hge] at hg; cases hg
theorem toList_inj {a b : ByteArray} : a.toList = b.toList ↔ a = b := by
  constructor
  · intro h; rw [ByteArray.toList_eq, ByteArray.toList_eq] at h; exact Go.WideShapes.bytes_inj h
  · intro h; rw [h]
theorem beq_str (a b : ByteArray) : (a.toList == b.toList) = decide (a = b) := by
  by_cases h : a = b
  · subst h; simp
  · have : ¬ a.toList = b.toList := fun h' => h (toList_inj.1 h')
    simp [h, this]
theorem bne_str (a b : ByteArray) : (!(a.toList == b.toList)) = decide (a ≠ b) := by rw [beq_str]; simp
structure Ext (B : Nat) (w : World) where
  val : World
  property : Below B w val
instance instExt (B : Nat) (w : World) : Nonempty (Ext B w) := ⟨⟨w, Below.refl _ _⟩⟩
theorem wp_region_ext {P : Program} {id : Nat} {Q : Exit → Act → World → Prop} {a : Act} {w : World} {l : List Oper} (B : Nat) (hm : P.follows .mixedOrders = true) (hB : Region.lexB .any l.toArray = true)
    (h : wpQuiet P l.toArray (fun w' => ∃ x : Ext B w, w' = x.val) (fun a' => ∀ w', (∃ x : Ext B w, w' = x.val) → Q .normal a' w') l a) : (Code.region id l.toArray true).wp P Q a w :=
  wp_region_quiet (C := fun w' => ∃ x : Ext B w, w' = x.val) hm hB ⟨⟨_, (Below.refl _ _).drew⟩, rfl⟩ (by simpa using h)
theorem ext_call {P : Program} {f : FuncId} {args : Array Value} {B : Nat} {w : World} {v : Value} (x : Ext B w) (hB : B ≤ w.heap.size)
    (h : Calls P f args x.val fun e w' => e = .returned v ∧ Below x.val.heap.size x.val w') : Calls P f args x.val fun e w'' => e = .returned v ∧ ∃ y : Ext B w, w'' = y.val :=
  h.mono fun _ w' ⟨he, hb⟩ => ⟨he, ⟨w', x.property.trans (hb.mono (Nat.le_trans hB x.property.size))⟩, rfl⟩
theorem ext_same {P : Program} {f : FuncId} {args : Array Value} {B : Nat} {w : World} {v : Value} (x : Ext B w)
    (h : Calls P f args x.val fun e w' => e = .returned v ∧ x.val = w') : Calls P f args x.val fun e w'' => e = .returned v ∧ ∃ y : Ext B w, w'' = y.val :=
  h.mono fun _ _w' ⟨he, hb⟩ => ⟨he, x, hb.symm⟩
theorem wrap64_u8 (c : UInt8) : wrap64 (c.toNat : Int) = (c.toNat : Int) := by
  have := c.toNat_lt
  exact IntWalk.wrap64_in _ ⟨by omega, by omega⟩
def mvEq (a b c d : ByteArray) : Bool := decide (a = c ∧ b = d)
theorem own_made (w : World) (base : Nat) (e : TypeId) (z : Array Value) (size n : Nat) (hz : z.size = size) (hs : 0 < size) (hn : n ≤ 9223372036854775807) (hb : base ≤ w.heap.size) :
    (w.alloc (.cells (madeCells z (n * size)) e)).ownsRow base e size (.slice (some ⟨w.heap.size, 0, none⟩) n n) n ((List.replicate n z.toList).flatten) := by
  have := World.ownsRow_lit (e := e) (base := base) (size := size) w (madeCells z (n * size)) n hb hn (size_madeCells _ _)
  have e1 : (madeCells z (n * size)).toList = (List.replicate n z.toList).flatten := by
    apply List.ext_getElem?
    intro j
    have hl : (List.replicate n z.toList).flatten.length = n * size := by simp [List.length_flatten, hz]
    by_cases hj : j < n * size
    · have e2 : (madeCells z (n * size)).toList[j]? = some (z[j % size]!) := by
        simp [madeCells, hz, hj]
      rw [e2]
      symm
      subst hz
      clear this hl e2
      induction n generalizing j with
      | zero => simp at hj
      | succ n ih =>
        rw [List.replicate_succ, List.flatten_cons]
        by_cases h1 : j < z.size
        · rw [List.getElem?_append_left (by simpa using h1), Nat.mod_eq_of_lt h1]
          simp [h1]
        · rw [List.getElem?_append_right (by simp; omega)]
          have : (j - z.size) % z.size = j % z.size := by
            rw [← Nat.mod_eq_sub_mod (by omega)]
          rw [show j - z.toList.length = j - z.size by simp, ih (by omega) (j - z.size) (by rw [Nat.add_mul] at hj; omega), this]
    · rw [List.getElem?_eq_none (l := (List.replicate n z.toList).flatten) (by rw [hl]; omega), List.getElem?_eq_none (l := (madeCells z (n * size)).toList) (by rw [Array.length_toList, size_madeCells]; omega)]
  rw [← e1]; exact this
def At (w : World) (b : Nat) (t : TypeId) (cs : Array Value) : Prop := w.heap[b]? = some (.cells cs t (0, 0))
section
variable {w w' : World} {b : Nat} {t : TypeId} {cs : Array Value}
theorem At.lt (h : At w b t cs) : b < w.heap.size := by
  rcases Nat.lt_or_ge b w.heap.size with hlt | hge
  · exact hlt
  · unfold At at h; rw [Array.getElem?_eq_none hge] at h; cases h
theorem At.cell (h : At w b t cs) (i : Nat) : w.cell? ⟨b, i, none⟩ = cs[i]? := cell_of_row w b i cs t (0, 0) h
theorem At.frozen (h : At w b t cs) (i : Nat) : w.frozen? ⟨b, i, none⟩ = false := frozen_of_row w b i cs t h
theorem At.new (w : World) (t : TypeId) (cs : Array Value) : At (w.alloc (.cells cs t)) w.heap.size t cs := heap_alloc_new w _
theorem At.below {B : Nat} (h : At w b t cs) (hb : Below B w w') (hlt : b < B) : At w' b t cs := (hb.block b hlt).trans h
theorem At.keep (h : At w b t cs) (hb : Below w.heap.size w w') : At w' b t cs := h.below hb h.lt
theorem At.alloc (h : At w b t cs) (o : Obj) : At (w.alloc o) b t cs := h.keep ((Below.refl _ _).alloc (Nat.le_refl _) _)
theorem At.set (h : At w b t cs) (i : Nat) (u : Value) : At (w.setCell ⟨b, i, none⟩ u) b t (cs.setIfInBounds i u) := heap_setCell_same w b i cs t u h
theorem At.far (h : At w b t cs) {p : Addr} (hp : b ≠ p.block) (u : Value) : At (w.setCell p u) b t cs := (heap_setCell_other w p b u hp).trans h
end
theorem grown_trans {a b c : World} {row : Option Nat} (h : a.grownBy b row) (k : b.grownBy c row) : a.grownBy c row :=
  ⟨k.os.trans h.os, k.tape.trans h.tape, k.output.trans h.output, Nat.le_trans h.size k.size, fun i hi hne => (k.block i (Nat.lt_of_lt_of_le hi h.size) hne).trans (h.block i hi hne)⟩
theorem grown_below {a b : World} (h : Below a.heap.size a b) (row : Option Nat) : a.grownBy b row := ⟨h.os, h.tape, h.output, h.size, fun i hi _ => h.block i hi⟩
theorem grown_refl (a : World) (row : Option Nat) : a.grownBy a row := ⟨rfl, rfl, rfl, Nat.le_refl _, fun _ _ _ => rfl⟩
theorem below_grown {B : Nat} {a b : World} {row : Option Nat} (h : a.grownBy b row) (hB : B ≤ a.heap.size) (hr : ∀ g, row = some g → B ≤ g) : Below B a b :=
  ⟨h.os, h.tape, h.output, h.size, fun i hi => h.block i (by omega) fun e => by have := hr i e.symm; omega⟩
theorem Rd.grown {w w' : World} {size n : Nat} {v : Value} {cs : List Value} {row : Option Nat} (h : Rd w size v n cs) (hg : w.grownBy w' row) (hne : v.ownBlock ≠ row ∨ row = none) : Rd w' size v n cs := by
  obtain ⟨A, cap, e, hc, hn, hl, hr⟩ := h
  refine ⟨A, cap, e, hc, hn, hl, fun h0 => ?_⟩
  obtain ⟨b, off, eA, hb, hcell⟩ := hr h0
  refine ⟨b, off, eA, Nat.lt_of_lt_of_le hb hg.size, fun j u hu => ?_⟩
  refine hg.cell (hcell j u hu) ?_
  subst e eA
  rcases hne with h1 | h1
  · exact h1
  · rw [h1]; simp
end Go.PM

