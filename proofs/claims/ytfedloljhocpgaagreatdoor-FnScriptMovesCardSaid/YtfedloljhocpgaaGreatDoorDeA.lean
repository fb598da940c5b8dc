import Derived.Test.YtfedloljhocpgaaGreatDoorProg
import Derived.Test.YtfedloljhocpgaaGreatDoorLib
import Derived.Test.YtfedloljhocpgaaGreatDoorAhd
import Derived.WideMake
namespace Go.PG
open Go.RowKit Go.PM
theorem bne_ba {a b : ByteArray} (h : a ≠ b) : (a == b) = false := by simpa using h
theorem beq_ba {a b : ByteArray} (h : a = b) : (a == b) = true := by simpa using h
def entL : Nat → List (ByteArray × Value) → List MapEntry
  | _, [] => []
  | n, x :: l => ⟨.string x.1, x.2, n⟩ :: entL (n + 1) l
theorem entL_append (n : Nat) (l : List (ByteArray × Value)) (x : ByteArray × Value) : entL n (l ++ [x]) = entL n l ++ [⟨.string x.1, x.2, n + l.length⟩] := by
  induction l generalizing n with
  | nil => rfl
  | cons y l ih =>
    simp only [List.cons_append, entL, ih, List.length_cons]
    rw [show n + 1 + l.length = n + (l.length + 1) by omega]
def MapAt (w : World) (b : Nat) (l : List (ByteArray × Value)) : Prop := w.heap[b]? = some (.map (entL 0 l).toArray l.length)
theorem MapAt.lt {w : World} {b : Nat} {l : List (ByteArray × Value)} (h : MapAt w b l) : b < w.heap.size := (Array.getElem?_eq_some_iff.1 h).1
theorem MapAt.keep {w w' : World} {b : Nat} {l : List (ByteArray × Value)} (h : MapAt w b l) (hb : Below w.heap.size w w') : MapAt w' b l := (hb.block b h.lt).trans h
def putMap (w : World) (b : Nat) (l : List (ByteArray × Value)) : World := { w with heap := w.heap.setIfInBounds b (.map (entL 0 l).toArray l.length) }
theorem putMap_at {w : World} {b : Nat} (h : b < w.heap.size) (l : List (ByteArray × Value)) : MapAt (putMap w b l) b l := by
  unfold MapAt putMap
  simp [h]
theorem putMap_size (w : World) (b : Nat) (l : List (ByteArray × Value)) : (putMap w b l).heap.size = w.heap.size := by simp [putMap]
theorem putMap_grown (w : World) (b : Nat) (l : List (ByteArray × Value)) : w.grownBy (putMap w b l) (some b) :=
  ⟨rfl, rfl, rfl, by rw [putMap_size]; exact Nat.le_refl _, fun k _ hne => by
    show (w.heap.setIfInBounds b _)[k]? = _
    rw [Array.getElem?_setIfInBounds_ne (fun e => hne (by rw [e]))]⟩
theorem find_none {s : ByteArray} : ∀ (l : List (ByteArray × Value)) (n i : Nat), s ∉ l.map (·.1) → Instr.findNow .string (.string s) (entL n l) i = some none
  | [], _, _, _ => rfl
  | x :: l, n, i, h => by
    simp only [List.map_cons, List.mem_cons, not_or] at h
    have h1 : (s == x.1) = false := bne_ba h.1
    simp only [entL, Instr.findNow, Instr.sameNow, h1]
    exact find_none l (n + 1) (i + 1) h.2
theorem find_some {s : ByteArray} : ∀ (l : List (ByteArray × Value)) (n i : Nat) (v : Value), l.lookup s = some v → ∃ j, Instr.findNow .string (.string s) (entL n l) i = some (some (j, v))
  | [], _, _, _, h => by cases h
  | x :: l, n, i, v, h => by
    simp only [entL, Instr.findNow, Instr.sameNow]
    by_cases e : s = x.1
    · have h1 : (s == x.1) = true := beq_ba e
      obtain ⟨k, u⟩ := x
      simp only [List.lookup, h1] at h ⊢
      cases h
      exact ⟨i, rfl⟩
    · have h1 : (s == x.1) = false := bne_ba e
      obtain ⟨k, u⟩ := x
      simp only [List.lookup, h1] at h ⊢
      exact find_some l (n + 1) (i + 1) v h
section
variable {P : Program} {T kt et : TypeId} {w : World} {b : Nat} {l : List (ByteArray × Value)}
theorem run_insert (hm : P.underlying T = some (.map kt et)) (hk : P.underlying kt = some .string) (h : MapAt w b l) {s : ByteArray} (hs : s ∉ l.map (·.1)) (v : Value) :
    (Instr.mapUpdate T (.map (some b)) (.string s) v).run P w = .ok () (putMap w b (l ++ [(s, v)])) := by
  have hf : Instr.findNow .string (.string s) (entL 0 l).toArray.toList 0 = some none := find_none (s := s) l 0 0 hs
  have hc : (Instr.checkKey false 10000 kt (.string s)).run P w = .ok () w := MapKept.run_checkKey (k := .string s) hk (by simp [MapKept.IsKey]) false 9999
  simp [Instr.mapUpdate, run_underlying hm, MapKept.run_getObj_map h, hc, MapKept.run_findKey hk hf, MapKept.run_setObj_map _ h, Result.andThen, putMap, entL_append]
theorem run_lookup_some (hm : P.underlying T = some (.map kt et)) (hk : P.underlying kt = some .string) (h : MapAt w b l) {s : ByteArray} {v : Value} (hs : l.lookup s = some v) :
    (Instr.lookup T (.map (some b)) (.string s) true).run P w = .ok (.tuple #[v, .bool true]) w := by
  obtain ⟨j, hf⟩ := find_some (s := s) l 0 0 v hs
  replace hf : Instr.findNow .string (.string s) (entL 0 l).toArray.toList 0 = some (some (j, v)) := hf
  have hc : ∀ e, (Instr.checkKey e 10000 kt (.string s)).run P w = .ok () w := fun e => MapKept.run_checkKey (k := .string s) hk (by simp [MapKept.IsKey]) e 9999
  simp [Instr.lookup, run_underlying hm, MapKept.run_getObj_map h, hc, MapKept.run_findKey hk hf, Result.andThen]
theorem wpList_ins {ops : Array Oper} {rest : List Oper} {o : Oper} {a : Act} {Q : Exit → Act → World → Prop} {m x : Operand} {s : ByteArray} {v : Value}
    (hg : o.guard = none) (hop : o.op = .insert T m (.const (.string s)) x) (hd : o.dst = none) (hT : P.underlying T = some (.map kt et)) (hk : P.underlying kt = some .string)
    (hm : a.eval m = .map (some b)) (hv : a.eval x = v) (h : MapAt w b l) (hs : (l.map (·.1)).contains s = false)
    (hK : ∀ w', MapAt w' b (l ++ [(s, v)]) → w'.heap.size = w.heap.size → w.grownBy w' (some b) → wpList P ops Q rest a w') : wpList P ops Q (o :: rest) a w := by
  have hs' : s ∉ l.map (·.1) := fun hm => by
    have := List.contains_iff_mem.2 hm
    rw [hs] at this; cases this
  have hrun := run_insert hT hk h hs' v
  refine wpList_plain hg fun K' hK' => ?_
  unfold Oper.wp
  have he : a.eval (.const (.string s)) = .string s := rfl
  simp [execOp, hop, hm, hv, he, hrun, Result.andThen]
  refine hK' _ _ ?_
  rw [hd]
  exact hK _ (putMap_at h.lt _) (putMap_size _ _ _) (putMap_grown _ _ _)
def fnV (f : Nat) : Value := .func (.func f) #[] #[]
def cloV (f b : Nat) : Value := .func (.func f) #[] #[.pointer (some ⟨b, 0, none⟩)]
theorem wpList_insF {ops : Array Oper} {rest : List Oper} {o : Oper} {a : Act} {Q : Exit → Act → World → Prop} {m : Operand} {f : Nat} {s : ByteArray}
    (hg : o.guard = none) (hop : o.op = .insert T m (.const (.string s)) (.func f)) (hd : o.dst = none) (hT : P.underlying T = some (.map kt et)) (hk : P.underlying kt = some .string)
    (hm : a.eval m = .map (some b)) (h : MapAt w b l) (hs : (l.map (·.1)).contains s = false)
    (hK : ∀ w', MapAt w' b (l ++ [(s, fnV f)]) → w'.heap.size = w.heap.size → w.grownBy w' (some b) → wpList P ops Q rest a w') : wpList P ops Q (o :: rest) a w :=
  wpList_ins hg hop hd hT hk hm rfl h hs hK
theorem wpList_insT {ops : Array Oper} {rest : List Oper} {o : Oper} {a : Act} {Q : Exit → Act → World → Prop} {m : Operand} {t : Nat} {s : ByteArray} {v : Value}
    (hg : o.guard = none) (hop : o.op = .insert T m (.const (.string s)) (.tmp t)) (hd : o.dst = none) (hT : P.underlying T = some (.map kt et)) (hk : P.underlying kt = some .string)
    (hm : a.eval m = .map (some b)) (ht : a.tmps[t]? = some v) (h : MapAt w b l) (hs : (l.map (·.1)).contains s = false)
    (hK : ∀ w', MapAt w' b (l ++ [(s, v)]) → w'.heap.size = w.heap.size → w.grownBy w' (some b) → wpList P ops Q rest a w') : wpList P ops Q (o :: rest) a w :=
  wpList_ins hg hop hd hT hk hm (by show a.tmps.getD t undef = v; rw [Array.getD_eq_getD_getElem?, ht]; rfl) h hs hK
end
end Go.PG

