import Derived.Test.YtfedloljhocpgaaGreatDoorRound
import Derived.Test.YtfedloljhocpgaaGreatDoorLib
import Derived.OwnWalkIn
import Derived.Laws.Tables
import Derived.Great.BuildSlice
import Derived.Sort.QuietTacIn
import Derived.Sort.BigQuietIn
namespace Go.PM
open Go.RowKit
theorem grown_setRow (w : World) (g : Nat) (cs : Array Value) : w.grownBy (w.setRow g cs) (some g) :=
  ⟨rfl, rfl, rfl, by simp [World.setRow], fun i _ hne => setRow_other w g i cs (fun e => hne (by rw [e]))⟩
theorem At.setRow {w : World} {b : Nat} {t : TypeId} {old : Array Value} (h : At w b t old) (cs : Array Value) : At (w.setRow b cs) b t cs := setRow_heap w b old cs t (0, 0) h
theorem At.grown {w w' : World} {b : Nat} {t : TypeId} {cs : Array Value} {row : Option Nat} (h : At w b t cs) (hg : w.grownBy w' row) (hne : some b ≠ row) : At w' b t cs := (hg.block b h.lt hne).trans h
section
variable {P : Program} {ops : Array Oper} {rest : List Oper} {o : Oper} {a : Act} {w : World} {Q : Exit → Act → World → Prop}
theorem ld_row (hgd : o.guard = none) (ty : TypeId) (x : Operand) (ho : o.op = .load ty x) (b : Nat) (t : TypeId) (cs : Array Value) (hA : At w b t cs) (hx : a.eval x = .pointer (some ⟨b, 0, none⟩))
    (k : Nat) (e : TypeId) (hu : P.underlying ty = some (.array k e)) (hi : (P.info? ty).map (·.size) = some cs.size) (h : wpList P ops Q rest (a.put o.dst (.agg cs)) w) : wpList P ops Q (o :: rest) a w :=
  wpList_load_row hgd ty x ho b hx t cs (0, 0) _ hA hu rfl hi h
theorem st_row (hgd : o.guard = none) (ty : TypeId) (x y : Operand) (ho : o.op = .store ty x y) (hd : o.dst = none) (b : Nat) (t : TypeId) (old cs : Array Value) (hA : At w b t old) (hx : a.eval x = .pointer (some ⟨b, 0, none⟩)) (hy : a.eval y = .agg cs)
    (hi : (P.info? ty).map (·.size) = some cs.size) (hold : old.size = cs.size) (h1 : cs.all (·.oneCell') = true)
    (h : ∀ w', At w' b t cs → w.grownBy w' (some b) → wpList P ops Q rest a w') : wpList P ops Q (o :: rest) a w :=
  wpList_store_rowTo hgd ty x y ho hd b cs hx hy t old hA hi hold h1 (h _ (At.setRow hA cs) (grown_setRow _ _ _))
theorem ldIn_row {F : Fence} {n : Nat} (hgd : o.guard = none) (ty : TypeId) (x : Operand) (ho : o.op = .load ty x) (b : Nat) (t : TypeId) (cs : Array Value) (hA : At w b t cs) (hx : a.eval x = .pointer (some ⟨b, 0, none⟩))
    (k : Nat) (e : TypeId) (hu : P.underlying ty = some (.array k e)) (hi : (P.info? ty).map (·.size) = some cs.size) (h : wpListIn F n P ops Q rest (a.put o.dst (.agg cs)) w) : wpListIn F n P ops Q (o :: rest) a w := by
  refine wpListIn_plain hgd fun K hK' => ?_
  unfold Oper.wpIn
  refine ⟨?_, ?_⟩
  · simp [Oper.about, ho]
  · rw [Oper.semAt_plain F _ _ (by rw [ho]; intro c hc'; cases hc')]
    simp only [execOp, ho, hx, Instr.loadAt, Instr.sureAddr, Sem.run_bind, Sem.run_pure, Result.andThen_ok, run_loadVar_row w b t ty cs (0, 0) _ hA hu rfl hi]
    exact hK' _ _ h
theorem stIn_row {F : Fence} {n : Nat} (hgd : o.guard = none) (ty : TypeId) (x y : Operand) (ho : o.op = .store ty x y) (hd : o.dst = none) (b : Nat) (t : TypeId) (old cs : Array Value) (hA : At w b t old) (hx : a.eval x = .pointer (some ⟨b, 0, none⟩)) (hy : a.eval y = .agg cs)
    (hi : (P.info? ty).map (·.size) = some cs.size) (hold : old.size = cs.size) (h1 : cs.all (·.oneCell') = true)
    (h : ∀ w', At w' b t cs → w.grownBy w' (some b) → wpListIn F n P ops Q rest a w') : wpListIn F n P ops Q (o :: rest) a w := by
  refine wpListIn_plain hgd fun K hK' => ?_
  unfold Oper.wpIn
  refine ⟨?_, ?_⟩
  · simp [Oper.about, ho]
  · rw [Oper.semAt_plain F _ _ (by rw [ho]; intro c hc'; cases hc')]
    simp only [execOp, ho, hx, hy, Instr.storeAt, Instr.sureAddr, Sem.run_bind, Sem.run_pure, Result.andThen_ok, run_storeVar_row w b t ty old cs hA hi hold h1]
    have := hK' _ _ (h _ (At.setRow hA cs) (grown_setRow _ _ _))
    simpa [hd, Oper.uponIn, Act.put] using this
theorem results_row1 {fn : Func} {p : Tmp} {ty : TypeId} (h : fn.results = #[.cell p ty]) (tmps : Array Value) (w : World) (b : Nat) (t : TypeId) (cs : Array Value) (hp : tmps.getD p undef = .pointer (some ⟨b, 0, none⟩)) (hA : At w b t cs)
    (k : Nat) (e : TypeId) (hu : P.underlying ty = some (.array k e)) (hi : (P.info? ty).map (·.size) = some cs.size) : (results fn tmps).run P w = .ok (.agg cs) w :=
  results_cell_row h tmps w b t cs (0, 0) _ hp hA hu rfl hi
theorem results_row2 {fn : Func} {p q : Tmp} {ty : TypeId} {v : Value} (h : fn.results = #[.cell p ty, .tmp q]) (tmps : Array Value) (w : World) (b : Nat) (t : TypeId) (cs : Array Value) (hp : tmps.getD p undef = .pointer (some ⟨b, 0, none⟩)) (hv : tmps.getD q undef = v) (hA : At w b t cs)
    (k : Nat) (e : TypeId) (hu : P.underlying ty = some (.array k e)) (hi : (P.info? ty).map (·.size) = some cs.size) : (results fn tmps).run P w = .ok (.tuple #[.agg cs, v]) w := by
  have hp' : tmps[p]?.getD undef = .pointer (some ⟨b, 0, none⟩) := by simpa using hp
  have hv' : tmps[q]?.getD undef = v := by simpa using hv
  simp [results, h, hp', hv', asAddr, run_loadVar_row w b t ty cs (0, 0) _ hA hu rfl hi]
variable {C : World → Prop}
theorem quiet_row {K : Act → Prop} (ty : TypeId) (x : Operand) (ho : o.op = .load ty x) (b : Nat) (t : TypeId) (cs : Array Value) (hx : a.eval x = .pointer (some ⟨b, 0, none⟩)) (hC : ∀ W, C W → At W b t cs)
    (k : Nat) (e : TypeId) (hu : P.underlying ty = some (.array k e)) (hi : (P.info? ty).map (·.size) = some cs.size) (h : K (a.put o.dst (.agg cs))) : o.quiet P a C K :=
  ⟨.agg cs, fun W hW => by
    unfold Oper.quietAt
    simp only [execOp, ho, hx, Instr.loadAt, Instr.sureAddr, Sem.run_bind, Sem.run_pure, Result.andThen_ok, run_loadVar_row W b t ty cs (0, 0) _ (hC W hW) hu rfl hi]
    exact ⟨rfl, rfl⟩, h⟩
theorem quietIn_row {F : Fence} {n : Nat} {K : Act → Prop} (ty : TypeId) (x : Operand) (ho : o.op = .load ty x) (b : Nat) (t : TypeId) (cs : Array Value) (hx : a.eval x = .pointer (some ⟨b, 0, none⟩)) (hC : ∀ W, C W → At W b t cs)
    (k : Nat) (e : TypeId) (hu : P.underlying ty = some (.array k e)) (hi : (P.info? ty).map (·.size) = some cs.size) (h : K (a.put o.dst (.agg cs))) : o.quietIn F n P a C K :=
  ⟨.agg cs, fun W hW => by
    unfold Oper.quietAtIn
    simp only [execOp, ho, hx, Instr.loadAt, Instr.sureAddr, Sem.run_bind, Sem.run_pure, Result.andThen_ok, run_loadVar_row W b t ty cs (0, 0) _ (hC W hW) hu rfl hi]
    exact ⟨rfl, rfl⟩, h⟩
end
theorem rowIn_step {F : Fence} {n : Nat} {P : Program} {ops : Array Oper} {C : World → Prop} {Q : Act → Prop} {a : Act} {o : Oper} {rest : List Oper} (hw : Region.wanted o (yielded ops a.tmps) = true) (ty : TypeId) (x : Operand) (ho : o.op = .load ty x) (b : Nat) (t : TypeId) (cs : Array Value)
    (hx : a.eval x = .pointer (some ⟨b, 0, none⟩)) (hC : ∀ W, C W → At W b t cs) (k : Nat) (e : TypeId) (hu : P.underlying ty = some (.array k e)) (hi : (P.info? ty).map (·.size) = some cs.size) (h : wpQuietIn F n P ops C Q rest (a.put o.dst (.agg cs))) : wpQuietIn F n P ops C Q (o :: rest) a := by
  refine wpQuietIn_step (fun w _ f hf => by simp [Oper.about, ho] at hf) (fun K hK => ?_)
  rw [if_pos hw]
  exact quietIn_row ty x ho b t cs hx hC k e hu hi (hK _ h)
theorem At.ext {W : World} {B b : Nat} {t : TypeId} {cs : Array Value} (h : At W b t cs) (hb : b < B) : ∀ w', (∃ x : Ext B W, w' = x.val) → At w' b t cs := by
  rintro w' ⟨x, rfl⟩; exact h.below x.property hb
end Go.PM

