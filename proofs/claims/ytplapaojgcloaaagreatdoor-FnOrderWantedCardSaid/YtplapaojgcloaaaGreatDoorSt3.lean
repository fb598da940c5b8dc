import Derived.Test.YtplapaojgcloaaaGreatDoorSt2
import Derived.Laws.CopyOwn
namespace Go.PM
open Go.RowKit
section
variable {P : Program} {ops : Array Oper} {rest : List Oper} {o : Oper} {a : Act} {w : World} {Q : Exit → Act → World → Prop}
def bytesC (s : ByteArray) : Array Value := s.data.map fun b => .int .u8 b.toNat
theorem bytesC_size (s : ByteArray) : (bytesC s).size = s.size := by simp [bytesC]
/-- a string is copied over a whole row -/
theorem run_copy_text (dT sT ty elem : TypeId) (hu : P.underlying dT = some (.slice elem)) (hsz : (P.info? elem).map (·.size) = some 1) (b : Nat) (t : TypeId) (cur : Array Value) (hA : At w b t cur) (cap : Nat) (s : ByteArray) (hcur : cur.size = s.size) :
    (Builtin.copy_ #[dT, sT] ty #[.slice (some ⟨b, 0, none⟩) s.size cap, .string s]).run P w = .ok (goInt s.size) (w.setRow b (bytesC s)) := by
  have h1 : ∀ v ∈ (bytesC s).toList, v.oneCell' = true := by
    intro v hv
    simp [bytesC] at hv
    obtain ⟨x, _, rfl⟩ := hv
    rfl
  have hst := run_storeCells_at P b 0 t (bytesC s).toList 0 cur w hA (by simp [bytesC_size, hcur]) h1
  have e : (cur.toList.take (0 + 0) ++ (bytesC s).toList ++ cur.toList.drop (0 + 0 + (bytesC s).toList.length)).toArray = bytesC s := by
    have : cur.toList.drop (0 + 0 + (bytesC s).toList.length) = [] := by
      rw [List.drop_eq_nil_iff]; simp [bytesC_size, hcur]
    rw [this]; simp
  cases hq : P.info? elem with
  | none => simp [hq] at hsz
  | some i =>
    have hi : i.size = 1 := by simpa [hq] using hsz
    rw [e] at hst
    have hx : List.take s.size (List.map (fun b : UInt8 => Value.int .u8 (b.toNat : Int)) s.data.toList) = (bytesC s).toList := by
      rw [List.take_of_length_le (by simp)]
      simp [bytesC]
    unfold Builtin.copy_
    simp [run_underlying hu w, Builtin.lenOf, Builtin.firstCells, sizeOf, typeInfo, hq]
    rw [hx, hst]
    rfl
theorem cp_text (hgd : o.guard = none) (d s : Operand) (dT sT : TypeId) (ho : o.op = .call { callee := .builtin .copy, args := #[d, s], argTypes := #[dT, sT] }) (elem : TypeId) (hu : P.underlying dT = some (.slice elem)) (hsz : (P.info? elem).map (·.size) = some 1)
    (b : Nat) (t : TypeId) (cur : Array Value) (hA : At w b t cur) (cap : Nat) (x : ByteArray) (hd : a.eval d = .slice (some ⟨b, 0, none⟩) x.size cap) (hs : a.eval s = .string x) (hcur : cur.size = x.size)
    (h : ∀ w', At w' b t (bytesC x) → w.grownBy w' (some b) → wpList P ops Q rest (a.put o.dst (goInt x.size)) w') : wpList P ops Q (o :: rest) a w := by
  refine wpList_plain hgd fun K hK => ?_
  have hrun := run_copy_text (P := P) dT sT o.type elem hu hsz b t cur hA cap x hcur
  unfold Oper.wp
  simp [execOp, ho, resolve, invoke, builtin, hd, hs, hrun, Result.andThen]
  exact hK _ _ (h _ (At.setRow hA _) (grown_setRow _ _ _))
end
end Go.PM
namespace Go.PM
open Go.RowKit
def nmS : Nat → UInt8 := fun q => cellsL.getD q 0
theorem bytes_nmS : bytesC cellsB = stC nmS := by simp [bytesC, cellsB, stC, nmS, cellsL]
def wspS (f g : Nat → UInt8) : Nat → UInt8 := fun q => if q < 9 then f q else g q
end Go.PM
namespace Go.Proofs.YtplapaojgcloaaaGreatDoor
open Go.RowKit Go.PM

set_option maxRecDepth 100000 in
set_option maxHeartbeats 800000 in
theorem stateOfNames_c (w : World) : Calls Tryz.prog 41 #[] w fun e w' => e = .returned (stV nmS) ∧ Below w.heap.size w w' := by
  have HR : ∀ (tmps : Array Value) (W : World) (g : Nat → UInt8) (b : Nat), At W b 72 (stC g) → tmps.getD 0 undef = .pointer (some ⟨b, 0, none⟩) →
      (results Tryz.f41 tmps).run Tryz.prog W = .ok (stV g) W := fun tmps W g b hA h4 =>
    results_row1 Tryz.results41 tmps W _ _ _ h4 hA 11 5 Tryz.underlying72 (by kernel_rfl)
  have hA0 : At ((w.alloc (.cells zSA 72)).alloc (.cells zSA 72)) w.heap.size 72 zSA := (At.new _ _ _).alloc _
  have hA1 : At ((w.alloc (.cells zSA 72)).alloc (.cells zSA 72)) (w.heap.size + 1) 72 zSA := by
    have := At.new (w.alloc (.cells zSA 72)) 72 zSA
    rwa [World.size_alloc] at this
  go_enter Tryz.func41, Tryz.ntmps41
  go_wp2_with (first | (refine cp_text rfl (.tmp 2) (.const (.string ⟨#[97, 98, 99, 100, 101, 102, 65, 66, 67, 116, 117]⟩)) 22 9 rfl 5 Tryz.underlying22 (by kernel_rfl) (w.heap.size + 1) 72 zSA hA1 11 ⟨#[97, 98, 99, 100, 101, 102, 65, 66, 67, 116, 117]⟩ (by rfl) (by rfl) rfl ?_; intro W1 hB1 hg1; rw [show bytesC ⟨#[97, 98, 99, 100, 101, 102, 65, 66, 67, 116, 117]⟩ = stC nmS from bytes_nmS] at hB1; have hB0 := hA0.grown hg1 (by simp); have bel1 : Below w.heap.size w W1 := Below.trans (by (repeat' (first | (with_reducible exact Below.refl _ _) | (with_reducible assumption) | (with_reducible refine Below.alloc ?_ ?_ _) | (with_reducible refine Below.drew ?_) | (with_reducible refine Below.setCell ?_ ?_ _) | (with_reducible exact Nat.le_refl _) | omega | ((repeat (first | rewrite [World.size_alloc] | rewrite [World.size_setCell] | rewrite [World.size_drew])); omega) | (simp; omega) | (simp; done)))) (below_grown hg1 (by simp; omega) (fun g hg => by cases hg; omega)); have hs1 := bel1.size) | (refine ld_row rfl 72 (.tmp 1) rfl (w.heap.size + 1) 72 (stC nmS) hB1 (by rfl) 11 5 Tryz.underlying72 (by kernel_rfl) ?_) | (refine st_row rfl 72 (.tmp 0) (.tmp 4) rfl rfl w.heap.size 72 zSA (stC nmS) hB0 (by rfl) (by rfl) (by kernel_rfl) rfl (stC_one _) ?_; intro W5 hA5 hg5))
  exact bodyPost_ret (v := stV nmS) (HR _ _ nmS w.heap.size hA5 rfl) rfl ⟨rfl, bel1.trans (below_grown hg5 hs1 (fun g hg => by cases hg; omega))⟩
end Go.Proofs.YtplapaojgcloaaaGreatDoor
