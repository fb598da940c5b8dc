import Derived.Test.YtfedloljhocpgaaGreatDoorDeG
import Derived.LaidEql
import Derived.Stop.Asserts
import Derived.RowKitTokens
import Derived.Lib.IndexBytes
import Derived.Lib.SplitLaws
import Derived.Test.YtfedloljhocpgaaGreatDoorApp
import Derived.Test.YtfedloljhocpgaaGreatDoorHold
import Derived.Test.YtfedloljhocpgaaGreatDoorHar
import Derived.Test.YtfedloljhocpgaaGreatDoorCut1
import Derived.Test.YtfedloljhocpgaaGreatDoorTail
import Derived.Test.YtfedloljhocpgaaGreatDoorRow
import Derived.Test.YtfedloljhocpgaaGreatDoorSp1
import Derived.Test.YtfedloljhocpgaaGreatDoorFmtS
import Derived.Test.YtfedloljhocpgaaGreatDoorFormat
import Derived.Test.YtfedloljhocpgaaGreatDoorPm
import Derived.Test.YtfedloljhocpgaaGreatDoorReaders
import Derived.Test.YtfedloljhocpgaaGreatDoorSource
import Derived.Test.YtfedloljhocpgaaGreatDoorNamesIn
import Derived.Test.YtfedloljhocpgaaGreatDoorMarkT
import Derived.LaidEqlPtr
import Derived.Test.YtfedloljhocpgaaGreatDoorNames
import Derived.Test.YtfedloljhocpgaaGreatDoorRange
namespace Go.Proofs.YtfedloljhocpgaaGreatDoor
open Go.RowKit Go.PM Go.PG Go.Extern.Stop Go.Stop Go.Extern
theorem as_nil (t : Value) (w : World) :
    Calls Tryz.prog 126 #[.nilIface, t] w fun e w' => e = .returned (.bool false) ∧ w' = w := by
  go_enter Tryz.func126, Tryz.ntmps126
  go_wp2
  go_ret
  exact ⟨rfl, rfl⟩
theorem xValueU (t : Addr) (w : World) : (ReflectliteValue.unpack (.iface 162 (.pointer (some t)))).run Tryz.prog w
    = .ok (.agg #[.pointer (some ⟨10, 162, none⟩), .pointer (some ⟨w.heap.size, 0, none⟩), .int .u64 150]) (w.alloc (.cells #[.pointer (some t)] 162)) := by kernel_rfl
theorem xValueR (t : Addr) (w : World) : (ReflectliteValue.unpack (.iface 163 (.pointer (some t)))).run Tryz.prog w
    = .ok (.agg #[.pointer (some ⟨10, 163, none⟩), .pointer (some ⟨w.heap.size, 0, none⟩), .int .u64 150]) (w.alloc (.cells #[.pointer (some t)] 163)) := by kernel_rfl
theorem xTypeU (a : Addr) (w : World) : (ReflectliteValue.methodAny (ReflectliteValue.valueError "reflectlite.Value.Type" 0) (fun t _ _ _ => ReflectliteType.toType t) #[.agg #[.pointer (some ⟨10, 162, none⟩), .pointer (some a), .int .u64 150]]).run Tryz.prog w
    = .ok (.iface 256 (.agg #[.pointer (some ⟨10, 162, none⟩)])) w := by kernel_rfl
theorem xTypeR (a : Addr) (w : World) : (ReflectliteValue.methodAny (ReflectliteValue.valueError "reflectlite.Value.Type" 0) (fun t _ _ _ => ReflectliteType.toType t) #[.agg #[.pointer (some ⟨10, 163, none⟩), .pointer (some a), .int .u64 150]]).run Tryz.prog w
    = .ok (.iface 256 (.agg #[.pointer (some ⟨10, 163, none⟩)])) w := by kernel_rfl
theorem xKind (k : Nat) (h : Value) (w : World) : (Go.method (k + 1) 256 (.agg #[h]) "Kind").run Tryz.prog w = .ok (389, h) w := by kernel_rfl
theorem xElem (k : Nat) (h : Value) (w : World) : (Go.method (k + 1) 256 (.agg #[h]) "Elem").run Tryz.prog w = .ok (402, .agg #[h]) w := by kernel_rfl
theorem xImplements (k : Nat) (h : Value) (w : World) : (Go.method (k + 1) 256 (.agg #[h]) "Implements").run Tryz.prog w = .ok (403, .agg #[h]) w := by kernel_rfl
theorem xAssignable (k : Nat) (h : Value) (w : World) : (Go.method (k + 1) 256 (.agg #[h]) "AssignableTo").run Tryz.prog w = .ok (400, .agg #[h]) w := by kernel_rfl
theorem xKindPU (w : World) : ((ReflectliteType.abiMethod fun t => (fun a : Nat => Value.int IntKind.u8 (a : Int)) <$> Rtype.kind t) #[.pointer (some ⟨10, 162, none⟩)]).run Tryz.prog w = .ok (.int .u8 22) w := by kernel_rfl
theorem xKindPR (w : World) : ((ReflectliteType.abiMethod fun t => (fun a : Nat => Value.int IntKind.u8 (a : Int)) <$> Rtype.kind t) #[.pointer (some ⟨10, 163, none⟩)]).run Tryz.prog w = .ok (.int .u8 22) w := by kernel_rfl
theorem xKindU (w : World) : ((ReflectliteType.abiMethod fun t => (fun a : Nat => Value.int IntKind.u8 (a : Int)) <$> Rtype.kind t) #[.pointer (some ⟨10, 159, none⟩)]).run Tryz.prog w = .ok (.int .u8 25) w := by kernel_rfl
theorem xKindR (w : World) : ((ReflectliteType.abiMethod fun t => (fun a : Nat => Value.int IntKind.u8 (a : Int)) <$> Rtype.kind t) #[.pointer (some ⟨10, 160, none⟩)]).run Tryz.prog w = .ok (.int .u8 25) w := by kernel_rfl
theorem xElemU (w : World) : (ReflectliteType.method ReflectliteType.elem #[.agg #[.pointer (some ⟨10, 162, none⟩)]]).run Tryz.prog w = .ok (.iface 256 (.agg #[.pointer (some ⟨10, 159, none⟩)])) w := by kernel_rfl
theorem xElemR (w : World) : (ReflectliteType.method ReflectliteType.elem #[.agg #[.pointer (some ⟨10, 163, none⟩)]]).run Tryz.prog w = .ok (.iface 256 (.agg #[.pointer (some ⟨10, 160, none⟩)])) w := by kernel_rfl
theorem xImplU (w : World) : (ReflectliteType.relation "Implements" ReflectliteType.implements_ #[.agg #[.pointer (some ⟨10, 159, none⟩)], .iface 256 (.agg #[.pointer (some ⟨10, 151, none⟩)])]).run Tryz.prog w = .ok (.bool true) w := by kernel_rfl
theorem xImplR (w : World) : (ReflectliteType.relation "Implements" ReflectliteType.implements_ #[.agg #[.pointer (some ⟨10, 160, none⟩)], .iface 256 (.agg #[.pointer (some ⟨10, 151, none⟩)])]).run Tryz.prog w = .ok (.bool true) w := by kernel_rfl
theorem xTypeOfR (v : Value) (w : World) : (ReflectliteType.typeOf #[.iface 160 v]).run Tryz.prog w = .ok (.iface 256 (.agg #[.pointer (some ⟨10, 160, none⟩)])) w := by kernel_rfl
theorem xAssRU (w : World) : (ReflectliteType.relation "AssignableTo" ReflectliteType.assignableTo #[.agg #[.pointer (some ⟨10, 160, none⟩)], .iface 256 (.agg #[.pointer (some ⟨10, 159, none⟩)])]).run Tryz.prog w = .ok (.bool false) w := by kernel_rfl
theorem xAssRR (w : World) : (ReflectliteType.relation "AssignableTo" ReflectliteType.assignableTo #[.agg #[.pointer (some ⟨10, 160, none⟩)], .iface 256 (.agg #[.pointer (some ⟨10, 160, none⟩)])]).run Tryz.prog w = .ok (.bool true) w := by kernel_rfl
theorem xValueS (s : ByteArray) (w : World) : (ReflectliteValue.unpack (.iface 160 (.agg #[.string s]))).run Tryz.prog w
    = .ok (.agg #[.pointer (some ⟨10, 160, none⟩), .pointer (some ⟨w.heap.size, 0, none⟩), .int .u64 153]) (w.alloc (.cells #[.string s] 160)) := by kernel_rfl
theorem rlmX (z : Sem Value) (f : TypeId → Addr → Nat → Nat → Sem Value) (v : Value) :
    ReflectliteValue.method z f #[v] = (do match ← ReflectliteValue.parts v with | none => z | some (t, a, fl) => f t a fl (fl % 32)) := rfl
theorem xPartsU (a : Addr) (w : World) : (ReflectliteValue.parts (.agg #[.pointer (some ⟨10, 162, none⟩), .pointer (some a), .int .u64 150])).run Tryz.prog w = .ok (some (162, a, 150)) w := by kernel_rfl
theorem xPartsR (a : Addr) (w : World) : (ReflectliteValue.parts (.agg #[.pointer (some ⟨10, 163, none⟩), .pointer (some a), .int .u64 150])).run Tryz.prog w = .ok (some (163, a, 150)) w := by kernel_rfl
theorem xNilU (a p : Addr) (W : World) (ha : W.cell? a = some (.pointer (some p))) :
    (ReflectliteValue.method (ReflectliteValue.valueError "reflectlite.Value.IsNil" 0) ReflectliteValue.isNil #[.agg #[.pointer (some ⟨10, 162, none⟩), .pointer (some a), .int .u64 150]]).run Tryz.prog W = .ok (.bool false) W := by
  rw [rlmX]
  simp only [Sem.run_bind, xPartsU, Result.andThen]
  simp [ReflectliteValue.isNil, loadVar, isAgg, underlying, Tryz.underlying162, ha, Result.andThen]
theorem xNilR (a p : Addr) (W : World) (ha : W.cell? a = some (.pointer (some p))) :
    (ReflectliteValue.method (ReflectliteValue.valueError "reflectlite.Value.IsNil" 0) ReflectliteValue.isNil #[.agg #[.pointer (some ⟨10, 163, none⟩), .pointer (some a), .int .u64 150]]).run Tryz.prog W = .ok (.bool false) W := by
  rw [rlmX]
  simp only [Sem.run_bind, xPartsR, Result.andThen]
  simp [ReflectliteValue.isNil, loadVar, isAgg, underlying, Tryz.underlying163, ha, Result.andThen]
theorem xElemT (w : World) : (Rtype.elem? 163).run Tryz.prog w = .ok (some 160) w := by kernel_rfl
theorem xMkR (p : Addr) (w : World) : (ReflectliteValue.mk 160 p ReflectliteValue.flagAddr).run Tryz.prog w = .ok (.agg #[.pointer (some ⟨10, 160, none⟩), .pointer (some p), .int .u64 409]) w := by kernel_rfl
theorem xElemV (a p : Addr) (W : World) (ha : W.cell? a = some (.pointer (some p))) :
    (ReflectliteValue.method (ReflectliteValue.valueError "reflectlite.Value.Elem" 0) ReflectliteValue.elem #[.agg #[.pointer (some ⟨10, 163, none⟩), .pointer (some a), .int .u64 150]]).run Tryz.prog W
      = .ok (.agg #[.pointer (some ⟨10, 160, none⟩), .pointer (some p), .int .u64 409]) W := by
  rw [rlmX]
  simp only [Sem.run_bind, xPartsR, Result.andThen]
  simp [ReflectliteValue.elem, loadVar, isAgg, underlying, Tryz.underlying163, ha, Result.andThen, xElemT, xMkR]
theorem rlsX (v x : Value) : ReflectliteValue.set #[v, x] = (do
    let (some (dst, a, fl), some (src, b, _)) := (← ReflectliteValue.parts v, ← ReflectliteValue.parts x)
      | unsupported (.noEntry "extern/(internal/reflectlite.Value).Set.zeroValue")
    if fl / ReflectliteValue.flagAddr % 2 == 0 then unsupported (.noEntry "extern/(internal/reflectlite.Value).Set.unaddressable")
    let val ← loadVar src b
    if ← Rtype.directlyAssignable dst src then storeVar dst a val
    else if ← Rtype.implements dst src then
      if (← Rtype.kind src) == 20 then
        match val with
        | .nilIface => unsupported (.noEntry "extern/reflectlite: a nil value of one interface type handed on as a value of another")
        | _ => storeVar dst a val
      else storeVar dst a (.iface src val)
    else panicString ("reflectlite.Set: value of type " ++ (← Rtype.spelt src) ++ " is not assignable to type " ++ (← Rtype.spelt dst))
    pure (.tuple #[])) := rfl
theorem xPartsSa (a : Addr) (w : World) : (ReflectliteValue.parts (.agg #[.pointer (some ⟨10, 160, none⟩), .pointer (some a), .int .u64 409])).run Tryz.prog w = .ok (some (160, a, 409)) w := by kernel_rfl
theorem xPartsS (a : Addr) (w : World) : (ReflectliteValue.parts (.agg #[.pointer (some ⟨10, 160, none⟩), .pointer (some a), .int .u64 153])).run Tryz.prog w = .ok (some (160, a, 153)) w := by kernel_rfl
theorem xDirect (w : World) : (Rtype.directlyAssignable 160 160).run Tryz.prog w = .ok true w := by kernel_rfl
theorem xSet (b ta : Nat) (s : ByteArray) (old : Value) (W : World) (hb : W.cell? ⟨b, 0, none⟩ = some (.string s)) (ht : W.cell? ⟨ta, 0, none⟩ = some old) (hf : W.frozen? ⟨ta, 0, none⟩ = false) :
    (ReflectliteValue.set #[.agg #[.pointer (some ⟨10, 160, none⟩), .pointer (some ⟨ta, 0, none⟩), .int .u64 409], .agg #[.pointer (some ⟨10, 160, none⟩), .pointer (some ⟨b, 0, none⟩), .int .u64 153]]).run Tryz.prog W
      = .ok (.tuple #[]) (W.setCell ⟨ta, 0, none⟩ (.string s)) := by
  rw [rlsX]
  simp only [Sem.run_bind, xPartsSa, xPartsS, Result.andThen]
  simp [ReflectliteValue.flagAddr, xDirect, go_sem, hb, ht, hf]
end Go.Proofs.YtfedloljhocpgaaGreatDoor
namespace Go.Proofs.YtfedloljhocpgaaGreatDoor
open Go.RowKit Go.PM Go.PG Go.Extern.Stop Go.Stop Go.Extern
def Et (w : World) : Prop := w.cell? ⟨1, 0, none⟩ = some (.iface 256 (.agg #[.pointer (some ⟨10, 151, none⟩)]))
theorem Et.lt {w : World} (h : Et w) : 1 < w.heap.size := by
  rcases Nat.lt_or_ge 1 w.heap.size with h1 | h1
  · exact h1
  · unfold Et World.cell? at h; rw [Array.getElem?_eq_none (by simpa using h1)] at h; cases h
theorem Et.below {w w' : World} (h : Et w) (hb : Below w.heap.size w w') : Et w' := (hb.cell (p := ⟨1, 0, none⟩) h.lt).trans h
set_option maxRecDepth 100000 in
set_option maxHeartbeats 8000000 in
theorem as_miss (s : ByteArray) (ta : Nat) (w : World) (hg : Et w) :
    Calls Tryz.prog 126 #[.iface 160 (.agg #[.string s]), .iface 162 (.pointer (some ⟨ta, 0, none⟩))] w fun e w' => e = .returned (.bool false) ∧ Below w.heap.size w w' := by
  have h6 := @run_callFunc_extern Tryz.prog 165 _ (fun args => ReflectliteValue.unpack (args.getD 0 (.tuple #[]))) Tryz.func165 (by kernel_rfl) (by kernel_rfl) (by kernel_rfl) (by kernel_rfl)
  have h7 := @run_callFunc_extern Tryz.prog 166 _ (ReflectliteValue.methodAny (ReflectliteValue.valueError "reflectlite.Value.Type" 0) (fun t _ _ _ => ReflectliteType.toType t)) Tryz.func166 (by kernel_rfl) (by kernel_rfl) (by kernel_rfl) (by kernel_rfl)
  have h8 := @run_callFunc_extern Tryz.prog 167 _ (ReflectliteValue.method (ReflectliteValue.valueError "reflectlite.Value.IsNil" 0) ReflectliteValue.isNil) Tryz.func167 (by kernel_rfl) (by kernel_rfl) (by kernel_rfl) (by kernel_rfl)
  have h27 := @run_callFunc_extern Tryz.prog 389 _ (ReflectliteType.abiMethod fun t => do pure (.int .u8 (← Rtype.kind t))) Tryz.func389 (by kernel_rfl) (by kernel_rfl) (by kernel_rfl) (by kernel_rfl)
  have h37 := @run_callFunc_extern Tryz.prog 402 _ (ReflectliteType.method ReflectliteType.elem) Tryz.func402 (by kernel_rfl) (by kernel_rfl) (by kernel_rfl) (by kernel_rfl)
  have h38 := @run_callFunc_extern Tryz.prog 403 _ (ReflectliteType.relation "Implements" ReflectliteType.implements_) Tryz.func403 (by kernel_rfl) (by kernel_rfl) (by kernel_rfl) (by kernel_rfl)
  have h10 := @run_callFunc_extern Tryz.prog 251 _ ReflectliteType.typeOf Tryz.func251 (by kernel_rfl) (by kernel_rfl) (by kernel_rfl) (by kernel_rfl)
  have h35 := @run_callFunc_extern Tryz.prog 400 _ (ReflectliteType.relation "AssignableTo" ReflectliteType.assignableTo) Tryz.func400 (by kernel_rfl) (by kernel_rfl) (by kernel_rfl) (by kernel_rfl)
  have tO := xTypeOfR
  have mA := xAssignable
  have a25 := xAssRU
  have f6 := xValueU
  have f7 := xTypeU
  have mK := xKind
  have mE := xElem
  have mI := xImplements
  have k27 := xKindPU
  have k25 := xKindU
  have e27 := xElemU
  have i25 := xImplU
  have na : ∀ v w, (Instr.typeAssert (.iface 160 v) 151 261 true).run Tryz.prog w = .ok (.tuple #[.nilIface, .bool false]) w := fun v w => run_typeAssert_lacksB Tryz.underlying261 (by kernel_rfl) (by kernel_rfl) v _ w
  have nu : ∀ v w, (Instr.typeAssert (.iface 160 v) 151 264 true).run Tryz.prog w = .ok (.tuple #[.nilIface, .bool false]) w := fun v w => run_typeAssert_lacksB Tryz.underlying264 (by kernel_rfl) (by kernel_rfl) v _ w
  have ns : ∀ v w, (Instr.typeAssert (.iface 160 v) 151 266 true).run Tryz.prog w = .ok (.tuple #[.nilIface, .bool false]) w := fun v w => run_typeAssert_lacksB Tryz.underlying266 (by kernel_rfl) (by kernel_rfl) v _ w
  have n8 := xNilU ⟨w.heap.size, 0, none⟩ ⟨ta, 0, none⟩ ((w.alloc (.cells #[.pointer (some ⟨ta, 0, none⟩)] 162)).alloc (.cells #[.pointer (some ⟨10, 162, none⟩), .pointer (some ⟨w.heap.size, 0, none⟩), .int .u64 150] 204)) (by simp)
  have hlt := hg.lt
  have hg2 : ((w.alloc (.cells #[.pointer (some ⟨ta, 0, none⟩)] 162)).alloc (.cells #[.pointer (some ⟨10, 162, none⟩), .pointer (some ⟨w.heap.size, 0, none⟩), .int .u64 150] 204)).cell? ⟨1, 0, none⟩ = some (.iface 256 (.agg #[.pointer (some ⟨10, 151, none⟩)])) := by
    rw [World.cell?_alloc_lt _ _ ⟨1, 0, none⟩ (by simp; omega), World.cell?_alloc_lt _ _ ⟨1, 0, none⟩ hlt]; exact hg
  clear hg
  go_enter Tryz.func126, Tryz.ntmps126
  go_wp2
  refine wp_loop_rounds 1 ?_
  rw [rounds_succ]
  go_wp2
  go_ret
  exact ⟨rfl, by (repeat' (first | (with_reducible exact Below.refl _ _) | (with_reducible assumption) | (with_reducible refine Below.alloc ?_ ?_ _) | (with_reducible refine Below.drew ?_) | (with_reducible refine Below.setCell ?_ ?_ _) | (with_reducible exact Nat.le_refl _) | omega | ((repeat (first | rewrite [World.size_alloc] | rewrite [World.size_setCell] | rewrite [World.size_drew])); omega) | (simp; omega) | (simp; done)))⟩
set_option maxRecDepth 100000 in
set_option maxHeartbeats 8000000 in
theorem as_hit (s : ByteArray) (ta : Nat) (old : Value) (w : World) (hg : Et w) (ht0 : w.cell? ⟨ta, 0, none⟩ = some old) (hf0 : w.frozen? ⟨ta, 0, none⟩ = false) :
    Calls Tryz.prog 126 #[.iface 160 (.agg #[.string s]), .iface 163 (.pointer (some ⟨ta, 0, none⟩))] w fun e w' => e = .returned (.bool true) ∧ ∃ W1, Below w.heap.size w W1 ∧ w' = W1.setCell ⟨ta, 0, none⟩ (.string s) := by
  have h6 := @run_callFunc_extern Tryz.prog 165 _ (fun args => ReflectliteValue.unpack (args.getD 0 (.tuple #[]))) Tryz.func165 (by kernel_rfl) (by kernel_rfl) (by kernel_rfl) (by kernel_rfl)
  have h7 := @run_callFunc_extern Tryz.prog 166 _ (ReflectliteValue.methodAny (ReflectliteValue.valueError "reflectlite.Value.Type" 0) (fun t _ _ _ => ReflectliteType.toType t)) Tryz.func166 (by kernel_rfl) (by kernel_rfl) (by kernel_rfl) (by kernel_rfl)
  have h8 := @run_callFunc_extern Tryz.prog 167 _ (ReflectliteValue.method (ReflectliteValue.valueError "reflectlite.Value.IsNil" 0) ReflectliteValue.isNil) Tryz.func167 (by kernel_rfl) (by kernel_rfl) (by kernel_rfl) (by kernel_rfl)
  have h27 := @run_callFunc_extern Tryz.prog 389 _ (ReflectliteType.abiMethod fun t => do pure (.int .u8 (← Rtype.kind t))) Tryz.func389 (by kernel_rfl) (by kernel_rfl) (by kernel_rfl) (by kernel_rfl)
  have h37 := @run_callFunc_extern Tryz.prog 402 _ (ReflectliteType.method ReflectliteType.elem) Tryz.func402 (by kernel_rfl) (by kernel_rfl) (by kernel_rfl) (by kernel_rfl)
  have h38 := @run_callFunc_extern Tryz.prog 403 _ (ReflectliteType.relation "Implements" ReflectliteType.implements_) Tryz.func403 (by kernel_rfl) (by kernel_rfl) (by kernel_rfl) (by kernel_rfl)
  have h10 := @run_callFunc_extern Tryz.prog 251 _ ReflectliteType.typeOf Tryz.func251 (by kernel_rfl) (by kernel_rfl) (by kernel_rfl) (by kernel_rfl)
  have h35 := @run_callFunc_extern Tryz.prog 400 _ (ReflectliteType.relation "AssignableTo" ReflectliteType.assignableTo) Tryz.func400 (by kernel_rfl) (by kernel_rfl) (by kernel_rfl) (by kernel_rfl)
  have tO := xTypeOfR
  have mA := xAssignable
  have a25 := xAssRR
  have f6 := xValueR
  have f7 := xTypeR
  have mK := xKind
  have mE := xElem
  have mI := xImplements
  have k27 := xKindPR
  have k25 := xKindR
  have e27 := xElemR
  have i25 := xImplR
  have na : ∀ v w, (Instr.typeAssert (.iface 160 v) 151 261 true).run Tryz.prog w = .ok (.tuple #[.nilIface, .bool false]) w := fun v w => run_typeAssert_lacksB Tryz.underlying261 (by kernel_rfl) (by kernel_rfl) v _ w
  have nu : ∀ v w, (Instr.typeAssert (.iface 160 v) 151 264 true).run Tryz.prog w = .ok (.tuple #[.nilIface, .bool false]) w := fun v w => run_typeAssert_lacksB Tryz.underlying264 (by kernel_rfl) (by kernel_rfl) v _ w
  have ns : ∀ v w, (Instr.typeAssert (.iface 160 v) 151 266 true).run Tryz.prog w = .ok (.tuple #[.nilIface, .bool false]) w := fun v w => run_typeAssert_lacksB Tryz.underlying266 (by kernel_rfl) (by kernel_rfl) v _ w
  have n8 := xNilR ⟨w.heap.size, 0, none⟩ ⟨ta, 0, none⟩ ((w.alloc (.cells #[.pointer (some ⟨ta, 0, none⟩)] 163)).alloc (.cells #[.pointer (some ⟨10, 163, none⟩), .pointer (some ⟨w.heap.size, 0, none⟩), .int .u64 150] 204)) (by simp)
  have hlt := hg.lt
  have hg2 : ((w.alloc (.cells #[.pointer (some ⟨ta, 0, none⟩)] 163)).alloc (.cells #[.pointer (some ⟨10, 163, none⟩), .pointer (some ⟨w.heap.size, 0, none⟩), .int .u64 150] 204)).cell? ⟨1, 0, none⟩ = some (.iface 256 (.agg #[.pointer (some ⟨10, 151, none⟩)])) := by
    rw [World.cell?_alloc_lt _ _ ⟨1, 0, none⟩ (by simp; omega), World.cell?_alloc_lt _ _ ⟨1, 0, none⟩ hlt]; exact hg
  have v25 := xValueS
  have h11 := @run_callFunc_extern Tryz.prog 252 _ (ReflectliteValue.method (ReflectliteValue.valueError "reflectlite.Value.Elem" 0) ReflectliteValue.elem) Tryz.func252 (by kernel_rfl) (by kernel_rfl) (by kernel_rfl) (by kernel_rfl)
  have h12 := @run_callFunc_extern Tryz.prog 253 _ ReflectliteValue.set Tryz.func253 (by kernel_rfl) (by kernel_rfl) (by kernel_rfl) (by kernel_rfl)
  have htl : ta < w.heap.size := by
    rcases Nat.lt_or_ge ta w.heap.size with h | h
    · exact h
    · simp [World.cell?, Array.getElem?_eq_none h] at ht0
  have el := xElemV ⟨w.heap.size, 0, none⟩ ⟨ta, 0, none⟩ (((w.alloc (.cells #[.pointer (some ⟨ta, 0, none⟩)] 163)).alloc (.cells #[.pointer (some ⟨10, 163, none⟩), .pointer (some ⟨w.heap.size, 0, none⟩), .int .u64 150] 204)).alloc (.cells #[.pointer (some ⟨10, 163, none⟩), .pointer (some ⟨w.heap.size, 0, none⟩), .int .u64 150] 204)) (by rw [World.cell?_alloc_lt _ _ ⟨w.heap.size, 0, none⟩ (by simp <;> omega), World.cell?_alloc_lt _ _ ⟨w.heap.size, 0, none⟩ (by simp <;> omega)]; simp)
  have st := xSet (w.heap.size + 1 + 1 + 1) ta s old ((((w.alloc (.cells #[.pointer (some ⟨ta, 0, none⟩)] 163)).alloc (.cells #[.pointer (some ⟨10, 163, none⟩), .pointer (some ⟨w.heap.size, 0, none⟩), .int .u64 150] 204)).alloc (.cells #[.pointer (some ⟨10, 163, none⟩), .pointer (some ⟨w.heap.size, 0, none⟩), .int .u64 150] 204)).alloc (.cells #[.string s] 160))
    (by have := (At.new (((w.alloc (.cells #[.pointer (some ⟨ta, 0, none⟩)] 163)).alloc (.cells #[.pointer (some ⟨10, 163, none⟩), .pointer (some ⟨w.heap.size, 0, none⟩), .int .u64 150] 204)).alloc (.cells #[.pointer (some ⟨10, 163, none⟩), .pointer (some ⟨w.heap.size, 0, none⟩), .int .u64 150] 204)) 160 #[.string s]).cell 0; simpa using this)
    (by rw [World.cell?_alloc_lt _ _ ⟨ta, 0, none⟩ (by simp; omega), World.cell?_alloc_lt _ _ ⟨ta, 0, none⟩ (by simp; omega), World.cell?_alloc_lt _ _ ⟨ta, 0, none⟩ (by simp; omega), World.cell?_alloc_lt _ _ ⟨ta, 0, none⟩ htl]; exact ht0)
    (by rw [World.frozen?_alloc_old _ _ ⟨ta, 0, none⟩ (by simp; omega), World.frozen?_alloc_old _ _ ⟨ta, 0, none⟩ (by simp; omega), World.frozen?_alloc_old _ _ ⟨ta, 0, none⟩ (by simp; omega), World.frozen?_alloc_old _ _ ⟨ta, 0, none⟩ (Nat.ne_of_lt htl)]; exact hf0)
  clear hg
  go_enter Tryz.func126, Tryz.ntmps126
  go_wp2
  refine wp_loop_rounds 1 ?_
  rw [rounds_succ]
  go_wp2
  go_ret
  exact ⟨rfl, _, by (repeat' (first | (with_reducible exact Below.refl _ _) | (with_reducible assumption) | (with_reducible refine Below.alloc ?_ ?_ _) | (with_reducible refine Below.drew ?_) | (with_reducible refine Below.setCell ?_ ?_ _) | (with_reducible exact Nat.le_refl _) | omega | ((repeat (first | rewrite [World.size_alloc] | rewrite [World.size_setCell] | rewrite [World.size_drew])); omega) | (simp; omega) | (simp; done))), rfl⟩
end Go.Proofs.YtfedloljhocpgaaGreatDoor
namespace Go.Proofs.YtfedloljhocpgaaGreatDoor
open Go.RowKit Go.PM Go.PG
def ExePost (w : World) (lv sv : Value) (xs : List Mv) (ss : List St) (out : ByteArray) (e : Ending) (w' : World) : Prop :=
  ∃ lv' sv', e = .returned (deskV lv' sv' out) ∧ RdM w' lv' xs ∧ RdS w' sv' ss ∧ Nw w lv lv' ∧ Nw w sv sv' ∧ Below w.heap.size w w'
set_option maxRecDepth 100000 in
set_option maxHeartbeats 4000000 in
theorem executeY_c (lv sv : Value) (xs xs' : List Mv) (ss ss' : List St) (out out' line : ByteArray) (w : World) (hx : RdM w lv xs) (hs : RdS w sv ss)
    (hb : ∀ W, Below w.heap.size w W → Calls Tryz.prog 125 #[deskV lv sv out, .string line] W (BehPost W lv sv xs' ss' out' line true)) :
    Calls Tryz.prog 69 #[deskV lv sv out, .string line] w (ExePost w lv sv xs' ss' out') := by
  have HB := Lib.hid hb
  have HXo := Lib.hid hx
  have HSo := Lib.hid hs
  obtain ⟨A, n, c, rfl⟩ : ∃ A n c, lv = .slice A n c := by obtain ⟨A, c, e, _⟩ := hx; exact ⟨A, _, c, e⟩
  obtain ⟨B, m, d, rfl⟩ : ∃ A n c, sv = .slice A n c := by obtain ⟨A, c, e, _⟩ := hs; exact ⟨A, _, c, e⟩
  clear hx hs hb
  obtain ⟨W2, hW2⟩ : ∃ W2 : World, W2 = (w.alloc (.cells #[.slice A n c, .slice B m d, .string out] 93)).alloc (.cells #[.slice none 0 0, .slice none 0 0, .string ⟨#[]⟩] 93) := ⟨_, rfl⟩
  have K1 : At W2 w.heap.size 93 #[.slice A n c, .slice B m d, .string out] := by rw [hW2]; exact (At.new w _ _).alloc _
  have K2 : At W2 (w.heap.size + 1) 93 #[.slice none 0 0, .slice none 0 0, .string ⟨#[]⟩] := by rw [hW2]; have := At.new (w.alloc (.cells #[.slice A n c, .slice B m d, .string out] 93)) 93 #[.slice none 0 0, .slice none 0 0, .string ⟨#[]⟩]; simpa using this
  have hB2 : Below w.heap.size w W2 := by rw [hW2]; exact ((Below.refl _ _).alloc (Nat.le_refl _) _).alloc (by simp) _
  have hs2 := hB2.size
  have q0 := K1.cell 0
  have q1 := K1.cell 1
  have q2 := K1.cell 2
  simp at q0 q1 q2
  go_enter Tryz.func69, Tryz.ntmps69
  go_wp2_with (rw [← hW2])
  first
    | rw [← hW2]
    | skip
  clear hW2
  go_wp2_with fail
  refine (HB.out W2 hB2).mono ?_
  rintro e w6 ⟨lv', sv', rfl, hx6, hs6, hn1, hn2, hb6⟩
  have n2 := K2.keep hb6
  have hB6 := hB2.trans (hb6.mono hs2)
  have hw4 : w.heap.size + 1 < W2.heap.size := K2.lt
  have HX6 := Lib.hid hx6
  have HS6 := Lib.hid hs6
  obtain ⟨A', n', c', rfl⟩ : ∃ A n c, lv' = .slice A n c := by obtain ⟨A, c, e, _⟩ := hx6; exact ⟨A, _, c, e⟩
  obtain ⟨B', m', d', rfl⟩ : ∃ A n c, sv' = .slice A n c := by obtain ⟨A, c, e, _⟩ := hs6; exact ⟨A, _, c, e⟩
  have hs6' := hB6.size
  clear hb6 K1 K2 hB2 q0 q1 q2 hx6 hs6
  obtain ⟨W7, hW7⟩ : ∃ W7 : World, W7 = ((w6.alloc (.cells #[.slice A' n' c', .slice B' m' d', .string out'] 93)).alloc (.cells #[.string ⟨#[]⟩] 159)).alloc (.cells #[.string ⟨#[]⟩] 160) := ⟨_, rfl⟩
  have hb7 : Below w6.heap.size w6 W7 := by rw [hW7]; exact (((Below.refl _ _).alloc (Nat.le_refl _) _).alloc (by simp) _).alloc (by simp; omega) _
  have n3 : At W7 (w.heap.size + 1) 93 #[.slice none 0 0, .slice none 0 0, .string ⟨#[]⟩] := n2.keep hb7
  have n4 : At W7 w6.heap.size 93 #[.slice A' n' c', .slice B' m' d', .string out'] := by rw [hW7]; exact ((At.new _ _ _).alloc _).alloc _
  have hB7 : Below w.heap.size w W7 := hB6.trans (hb7.mono hs6')
  have hs7 := hB7.size
  have hlt2 := n2.lt
  clear n2 hB6
  go_wp2_with (rw [← hW7])
  first
    | rw [← hW7]
    | skip
  clear hW7
  refine (as_nil _ _).mono ?_
  rintro e w8 ⟨rfl, h8⟩
  rw [h8]
  clear h8 w8
  go_wp2_with fail
  refine (as_nil _ _).mono ?_
  rintro e w9 ⟨rfl, h9⟩
  rw [h9]
  clear h9 w9
  have k20 := n3.cell 0
  have k21 := n3.cell 1
  have k22 := n3.cell 2
  have j20 := n4.cell 0
  have j21 := n4.cell 1
  have j22 := n4.cell 2
  have f0 := n3.frozen 0
  have f1 := n3.frozen 1
  have f2 := n3.frozen 2
  have hlt3 := n3.lt
  have hne : ¬ w6.heap.size = w.heap.size + 1 := by omega
  simp at k20 k21 k22 j20 j21 j22
  have hg0 : w6.grownBy W7 (some (w.heap.size + 1)) := grown_below hb7 _
  have kk := ((n3.set 0 (.slice A' n' c')).set 1 (.slice B' m' d')).set 2 (.string out')
  have hB8 : Below w.heap.size w (((W7.setCell ⟨w.heap.size + 1, 0, none⟩ (.slice A' n' c')).setCell ⟨w.heap.size + 1, 1, none⟩ (.slice B' m' d')).setCell ⟨w.heap.size + 1, 2, none⟩ (.string out')) := ((hB7.setCell (Nat.le_succ _) _).setCell (Nat.le_succ _) _).setCell (Nat.le_succ _) _
  have hg8 : w6.grownBy (((W7.setCell ⟨w.heap.size + 1, 0, none⟩ (.slice A' n' c')).setCell ⟨w.heap.size + 1, 1, none⟩ (.slice B' m' d')).setCell ⟨w.heap.size + 1, 2, none⟩ (.string out')) (some (w.heap.size + 1)) := grown_trans hg0 (grown_trans (grown_setc _ _ _ _) (grown_trans (grown_setc _ _ _ _) (grown_setc _ _ _ _)))
  have HR := Lib.hid (Rd.nw HXo.out hn1 HX6.out hg8 (by omega) (by omega))
  have HR2 := Lib.hid (Rd.nw HSo.out hn2 HS6.out hg8 (by omega) (by omega))
  have HN1 := Lib.hid (hn1.older (w := w) (by omega))
  have HN2 := Lib.hid (hn2.older (w := w) (by omega))
  simp at kk
  clear n3 n4 hB7 hg0 hg8 hn1 hn2 HX6 HS6 hb7
  go_wp2
  refine bodyPost_ret (v := deskV (.slice A' n' c') (.slice B' m' d') out') (results_desk1 _ 4 Tryz.results69 _ (w.heap.size + 1) _ _ _ kk _ rfl) rfl ?_
  exact ⟨_, _, rfl, HR.out, HR2.out, HN1.out, HN2.out, hB8⟩
set_option maxRecDepth 100000 in
set_option maxHeartbeats 4000000 in
theorem executeN_c (lv sv : Value) (xs xs' : List Mv) (ss ss' : List St) (out out' line : ByteArray) (ho : out.size ≤ 50000000) (w : World) (hE : Et w) (hx : RdM w lv xs) (hs : RdS w sv ss)
    (hb : ∀ W, Below w.heap.size w W → Calls Tryz.prog 125 #[deskV lv sv out, .string line] W (BehPost W lv sv xs' ss' out' line false)) :
    Calls Tryz.prog 69 #[deskV lv sv out, .string line] w (ExePost w lv sv xs ss (sayB out ⟨#[110, 111]⟩)) := by
  have HB := Lib.hid hb
  have HXo := Lib.hid hx
  have HSo := Lib.hid hs
  obtain ⟨A, n, c, rfl⟩ : ∃ A n c, lv = .slice A n c := by obtain ⟨A, c, e, _⟩ := hx; exact ⟨A, _, c, e⟩
  obtain ⟨B, m, d, rfl⟩ : ∃ A n c, sv = .slice A n c := by obtain ⟨A, c, e, _⟩ := hs; exact ⟨A, _, c, e⟩
  clear hx hs hb
  obtain ⟨W2, hW2⟩ : ∃ W2 : World, W2 = (w.alloc (.cells #[.slice A n c, .slice B m d, .string out] 93)).alloc (.cells #[.slice none 0 0, .slice none 0 0, .string ⟨#[]⟩] 93) := ⟨_, rfl⟩
  have K1 : At W2 w.heap.size 93 #[.slice A n c, .slice B m d, .string out] := by rw [hW2]; exact (At.new w _ _).alloc _
  have K2 : At W2 (w.heap.size + 1) 93 #[.slice none 0 0, .slice none 0 0, .string ⟨#[]⟩] := by rw [hW2]; have := At.new (w.alloc (.cells #[.slice A n c, .slice B m d, .string out] 93)) 93 #[.slice none 0 0, .slice none 0 0, .string ⟨#[]⟩]; simpa using this
  have hB2 : Below w.heap.size w W2 := by rw [hW2]; exact ((Below.refl _ _).alloc (Nat.le_refl _) _).alloc (by simp) _
  have hs2 := hB2.size
  have q0 := K1.cell 0
  have q1 := K1.cell 1
  have q2 := K1.cell 2
  simp at q0 q1 q2
  go_enter Tryz.func69, Tryz.ntmps69
  go_wp2_with (rw [← hW2])
  first
    | rw [← hW2]
    | skip
  clear hW2
  go_wp2_with fail
  refine (HB.out W2 hB2).mono ?_
  rintro e w6 ⟨rfl, hb6⟩
  have n1 := K1.keep hb6
  have n2 := K2.keep hb6
  have hB6 := hB2.trans (hb6.mono hs2)
  have hs6' := hB6.size
  clear hb6 K1 K2 hB2 q0 q1 q2
  obtain ⟨W7, hW7⟩ : ∃ W7 : World, W7 = ((w6.alloc (.cells #[.slice none 0 0, .slice none 0 0, .string ⟨#[]⟩] 93)).alloc (.cells #[.string ⟨#[]⟩] 159)).alloc (.cells #[.string ⟨#[]⟩] 160) := ⟨_, rfl⟩
  have hb7 : Below w6.heap.size w6 W7 := by rw [hW7]; exact (((Below.refl _ _).alloc (Nat.le_refl _) _).alloc (by simp) _).alloc (by simp; omega) _
  have m1 := n1.keep hb7
  have m2 := n2.keep hb7
  have m3 : At W7 (w6.heap.size + 1 + 1) 160 #[.string ⟨#[]⟩] := by rw [hW7]; have := At.new ((w6.alloc (.cells #[.slice none 0 0, .slice none 0 0, .string ⟨#[]⟩] 93)).alloc (.cells #[.string ⟨#[]⟩] 159)) 160 #[.string ⟨#[]⟩]; simpa using this
  have hB7 : Below w.heap.size w W7 := hB6.trans (hb7.mono hs6')
  have hs7 := hB7.size
  have hlt2 := n2.lt
  clear n1 n2 hB6 hb7
  go_wp2_with (rw [← hW7])
  first
    | rw [← hW7]
    | skip
  clear hW7
  refine (as_miss line _ W7 (hE.below hB7)).mono ?_
  rintro e w8 ⟨rfl, hb8⟩
  have l1 := m1.keep hb8
  have l2 := m2.keep hb8
  have l3 := m3.keep hb8
  have hB8 := hB7.trans (hb8.mono hs7)
  have hs8 := hB8.size
  clear m1 m2 m3 hb8 hB7
  go_wp2_with fail
  refine (as_hit line _ _ w8 (hE.below hB8) (l3.cell 0) (l3.frozen 0)).mono ?_
  rintro e w9 ⟨rfl, W1, hb9, rfl⟩
  have g9 := grown_setc W1 (w6.heap.size + 1 + 1) 0 (.string line)
  have o1 := (l1.keep hb9).grown g9 (fun e => by have := Option.some.inj e; omega)
  have o2 := (l2.keep hb9).grown g9 (fun e => by have := Option.some.inj e; omega)
  have hB9 : Below w.heap.size w (W1.setCell ⟨w6.heap.size + 1 + 1, 0, none⟩ (.string line)) := (hB8.trans (hb9.mono hs8)).setCell (by show w.heap.size ≤ w6.heap.size + 1 + 1; omega) _
  have hs9 := hB9.size
  clear l1 l2 l3 hb9 hB8 g9
  generalize W1.setCell ⟨w6.heap.size + 1 + 1, 0, none⟩ (.string line) = W9 at *
  have q0 := o1.cell 0
  have q1 := o1.cell 1
  have q2 := o1.cell 2
  simp at q0 q1 q2
  go_wp2_with fail
  refine (say_c A B n c m d out ⟨#[110, 111]⟩ (by omega) (by decide) W9).mono ?_
  rintro e w10 ⟨rfl, hb10⟩
  have n3 := o2.keep hb10
  have hB10 := hB9.trans (hb10.mono hs9)
  have k20 := n3.cell 0
  have k21 := n3.cell 1
  have k22 := n3.cell 2
  have f0 := n3.frozen 0
  have f1 := n3.frozen 1
  have f2 := n3.frozen 2
  have hlt3 := n3.lt
  simp at k20 k21 k22
  have kk := ((n3.set 0 (.slice A n c)).set 1 (.slice B m d)).set 2 (.string (sayB out ⟨#[110, 111]⟩))
  have hB11 : Below w.heap.size w (((w10.setCell ⟨w.heap.size + 1, 0, none⟩ (.slice A n c)).setCell ⟨w.heap.size + 1, 1, none⟩ (.slice B m d)).setCell ⟨w.heap.size + 1, 2, none⟩ (.string (sayB out ⟨#[110, 111]⟩))) := ((hB10.setCell (Nat.le_succ _) _).setCell (Nat.le_succ _) _).setCell (Nat.le_succ _) _
  have HR := Lib.hid (HXo.out.below hB11)
  have HR2 := Lib.hid (HSo.out.below hB11)
  simp at kk
  clear o1 o2 n3 q0 q1 q2 hB9 hB10 hb10
  go_wp2
  refine bodyPost_ret (v := deskV (.slice A n c) (.slice B m d) (sayB out ⟨#[110, 111]⟩)) (results_desk1 _ 4 Tryz.results69 _ (w.heap.size + 1) _ _ _ kk _ rfl) rfl ?_
  exact ⟨_, _, rfl, HR.out, HR2.out, Nw.refl _ _, Nw.refl _ _, hB11⟩
end Go.Proofs.YtfedloljhocpgaaGreatDoor
namespace Go.PG
open Go.RowKit Go.PM
def linesB : List ByteArray → ByteArray
  | [] => ⟨#[]⟩
  | l :: ls => l ++ ⟨#[10]⟩ ++ linesB ls
theorem ixByte_front (c : UInt8) : ∀ (l r : List UInt8), c ∉ l → Lib.indexByte (l ++ c :: r) c = l.length
  | [], r, _ => by simp [Lib.indexByte]
  | a :: l, r, h => by
    simp only [List.mem_cons, not_or] at h
    have h1 : ¬ a = c := fun e => h.1 e.symm
    have ih := ixByte_front c l r h.2
    simp only [List.cons_append, Lib.indexByte, beq_iff_eq, h1, if_false, ih, List.length_cons]
    have : ¬ ((l.length : Int) = -1) := by omega
    simp [this]
theorem lines_cut (l r : ByteArray) (h : (10 : UInt8) ∉ l.data.toList) : Lib.indexB (l ++ ⟨#[10]⟩ ++ r) ⟨#[10]⟩ = l.size := by
  show Lib.index _ _ = _
  have e : (l ++ ⟨#[10]⟩ ++ r).data.toList = l.data.toList ++ 10 :: r.data.toList := by simp [ByteArray.data_append]
  rw [e, Lib.index_one, ixByte_front _ _ _ h]
  simp
theorem lines_split (ls : List ByteArray) (h : ∀ l ∈ ls, (10 : UInt8) ∉ l.data.toList) : Lib.splitB ⟨#[10]⟩ 0 (Lib.countB (linesB ls) ⟨#[10]⟩) (linesB ls) = ls ++ [⟨#[]⟩] ∧ Lib.countB (linesB ls) ⟨#[10]⟩ = ls.length := by
  have h1 : 1 ≤ (⟨#[10]⟩ : ByteArray).size := by decide
  induction ls with
  | nil =>
    have hm : Lib.indexB (⟨#[]⟩ : ByteArray) ⟨#[10]⟩ = -1 := by
      show Lib.index _ _ = _
      rfl
    simp only [linesB]
    rw [Lib.countB_miss _ _ hm]
    exact ⟨rfl, rfl⟩
  | cons l r ih =>
    obtain ⟨ih1, ih2⟩ := ih fun x hx => h x (List.mem_cons_of_mem _ hx)
    have hc := lines_cut l (linesB r) (h l List.mem_cons_self)
    have hrest : (l ++ ⟨#[10]⟩ ++ linesB r).extract (l.size + (⟨#[10]⟩ : ByteArray).size) (l ++ ⟨#[10]⟩ ++ linesB r).size = linesB r := by
      have e : l.size + (⟨#[10]⟩ : ByteArray).size = (l ++ ⟨#[10]⟩).size := by rw [ByteArray.size_append]
      apply ByteArray.ext
      apply Array.ext'
      rw [Lib.extract_to_end, e]
      have e2 : (l ++ ⟨#[10]⟩ ++ linesB r).data.toList = (l ++ ⟨#[10]⟩).data.toList ++ (linesB r).data.toList := by rw [ByteArray.data_append, Array.toList_append]
      have e3 : (l ++ ⟨#[10]⟩).size = (l ++ ⟨#[10]⟩).data.toList.length := by rw [Array.length_toList]; rfl
      rw [e2, e3, List.drop_left]
    have hhead : (l ++ ⟨#[10]⟩ ++ linesB r).extract 0 (l.size + 0) = l := by
      apply ByteArray.ext
      apply Array.ext'
      simp [ByteArray.data_extract, ByteArray.data_append]
    simp only [linesB]
    rw [Lib.countB_hit _ _ l.size h1 hc, hrest, ih2, Nat.add_comm, Lib.splitB_hit _ _ _ _ _ hc, hrest, hhead, ← ih2, ih1, ih2]
    exact ⟨rfl, rfl⟩
end Go.PG
namespace Go.Proofs.YtfedloljhocpgaaGreatDoor
open Go.RowKit Go.PM Go.PG
def Ml (w : World) : Prop := ∃ m, w.cell? ⟨2, 0, none⟩ = some (.int .i64 m) ∧ 2 < w.heap.size
theorem Ml.below {w w' : World} (h : Ml w) (hb : Below w.heap.size w w') : Ml w' := by
  obtain ⟨m, h1, h2⟩ := h
  exact ⟨m, (hb.cell (p := ⟨2, 0, none⟩) h2).trans h1, Nat.lt_of_lt_of_le h2 hb.size⟩
theorem full_c (lv sv : Value) (out : ByteArray) (k : Nat) (h1 : k < 100) (h2 : out.size ≤ 40000) (w : World) :
    Calls Tryz.prog 67 #[deskV lv sv out, .int .i64 k] w fun e w' => e = .returned (.bool false) ∧ Below w.heap.size w w' := by
  have t1 : decide ((k : Int) ≥ 100) = false := decide_eq_false (by omega)
  have t2 : decide ((out.size : Int) > 40000) = false := decide_eq_false (by omega)
  go_enter Tryz.func67, Tryz.ntmps67
  go_wp2
  go_ret
  exact ⟨rfl, by (repeat' (first | (with_reducible exact Below.refl _ _) | (with_reducible assumption) | (with_reducible refine Below.alloc ?_ ?_ _) | (with_reducible refine Below.drew ?_) | (with_reducible refine Below.setCell ?_ ?_ _) | (with_reducible exact Nat.le_refl _) | omega | ((repeat (first | rewrite [World.size_alloc] | rewrite [World.size_setCell] | rewrite [World.size_drew])); omega) | (simp; omega) | (simp; done)))⟩
set_option maxRecDepth 100000 in
set_option maxHeartbeats 4000000 in
theorem runScript_c (text : ByteArray) (ls : List ByteArray) (w : World) (ht : text.size ≤ 20000) (hM : Ml w) (hsp : Lib.splitB ⟨#[10]⟩ 0 (Lib.countB text ⟨#[10]⟩) text = ls) (hcn : ls.length = Lib.countB text ⟨#[10]⟩ + 1)
    (X : Nat → List Mv) (Y : Nat → List St) (O : Nat → ByteArray) (hX : X 0 = []) (hY : Y 0 = []) (hO : O 0 = ⟨#[]⟩)
    (hstep : ∀ k (hk : k < ls.length), (ls[k] = ⟨#[]⟩ ∧ X (k + 1) = X k ∧ Y (k + 1) = Y k ∧ O (k + 1) = O k) ∨ (ls[k] ≠ ⟨#[]⟩ ∧ k < 100 ∧ (O k).size ≤ 40000 ∧
      ∀ W lv sv, Below w.heap.size w W → RdM W lv (X k) → RdS W sv (Y k) → Calls Tryz.prog 69 #[deskV lv sv (O k), .string ls[k]] W (ExePost W lv sv (X (k + 1)) (Y (k + 1)) (O (k + 1))))) :
    Calls Tryz.prog 24 #[.string text] w fun e w' => e = .returned (.string (O ls.length)) ∧ Below w.heap.size w w' := by
  have HS := Lib.hid hstep
  clear hstep
  have hb1 : Below w.heap.size w (w.alloc (.cells #[.slice none 0 0, .slice none 0 0, .string ⟨#[]⟩] 93)) := (Below.refl _ _).alloc (Nat.le_refl _) _
  have K1 : At (w.alloc (.cells #[.slice none 0 0, .slice none 0 0, .string ⟨#[]⟩] 93)) w.heap.size 93 #[.slice none 0 0, .slice none 0 0, .string ⟨#[]⟩] := At.new _ _ _
  obtain ⟨m, hm, hml⟩ := hM.below hb1
  have hSp := Tryz.strings_Split text ⟨#[10]⟩ m (w.alloc (.cells #[.slice none 0 0, .slice none 0 0, .string ⟨#[]⟩] 93)) (by omega) hm (by decide)
  rw [hsp, ← hcn] at hSp
  have hll : ls.length ≤ 20001 := by have := Lib.countB_le ⟨#[10]⟩ (by decide) text.size text (Nat.le_refl _); omega
  clear hsp hcn hm hml hM
  have t0 : decide ((text.size : Int) > 20000) = false := decide_eq_false (by omega)
  go_enter Tryz.func24, Tryz.ntmps24
  go_wp2_with fail
  refine hSp.mono ?_
  rintro e w2 ⟨rfl, hw2⟩
  have K2 : At w2 (w.heap.size + 1) 9 (ls.map Value.string).toArray := by rw [hw2]; have := At.new (w.alloc (.cells #[.slice none 0 0, .slice none 0 0, .string ⟨#[]⟩] 93)) 9 (ls.map Value.string).toArray; simpa using this
  have k1 : At w2 w.heap.size 93 #[.slice none 0 0, .slice none 0 0, .string ⟨#[]⟩] := by rw [hw2]; exact K1.alloc _
  have hB2 : Below w.heap.size w w2 := by rw [hw2]; exact hb1.alloc hb1.size _
  clear hSp K1 hb1 hw2
  go_wp2
  go_loopw [4, 5, 12] (fun _ _ i wr => ∃ (k : Nat), k ≤ ls.length ∧ i = .int .i64 k ∧ ∃ A n c B m d, At wr w.heap.size 93 #[.slice A n c, .slice B m d, .string (O k)] ∧ RdM wr (.slice A n c) (X k) ∧ RdS wr (.slice B m d) (Y k) ∧ (Value.slice A n c).ownBlock ≠ some w.heap.size ∧ (Value.slice B m d).ownBlock ≠ some w.heap.size ∧ At wr (w.heap.size + 1) 9 (ls.map Value.string).toArray ∧ Below w.heap.size w wr) (fun _ _ i _ => ls.length - (intOf i).toNat)
  case atStart => exact ⟨0, by omega, rfl, none, 0, 0, none, 0, 0, by rw [hO]; exact k1, by rw [hX]; exact ⟨none, 0, rfl, by simp, by simp, rfl, by simp⟩, by rw [hY]; exact ⟨none, 0, rfl, by simp, by simp, rfl, by simp⟩, by simp [Value.ownBlock], by simp [Value.ownBlock], K2, hB2⟩
  case round =>
    clear k1 K2 hB2
    obtain ⟨k, hk, rfl, A, n, c, B, m2, d, hA, hx, hs, hna, hnb, hL, hb⟩ := hrel
    have hbs := hb.size
    by_cases hlt : k < ls.length
    · have hcell : wr.cell? ⟨w.heap.size + 1, k, none⟩ = some (.string ls[k]) := by
        rw [hL.cell k]; simp [hlt]
      have hst := HS.out k hlt
      have HLT := Lib.hid hlt
      have i1 : (k : Int) < (ls.length : Int) := by omega
      rcases hst with ⟨h0, e1, e2, e3⟩ | ⟨h0, hk1, hok, hcall⟩
      · rw [h0] at hcell
        rw [← e1] at hx
        rw [← e2] at hs
        rw [← e3] at hA
        have HX := Lib.hid hx
        have HY := Lib.hid hs
        have HA := Lib.hid hA
        clear hx hs hA h0 e1 e2 e3
        go_wp2
        go_roundw
        case rel => exact ⟨k + 1, HLT.out, by go_num, A, n, c, B, m2, d, HA.out, HX.out, HY.out, hna, hnb, hL, hb⟩
        case measure => have := HLT.out; simp [intOf]; omega
      · have h0' : (ls[k].toList == []) = false := by
          rw [beq_eq_false_iff_ne]
          intro e
          exact h0 (toList_inj.1 (e.trans (by rw [ByteArray.toList_eq])))
        have hcall' := hcall wr (.slice A n c) (.slice B m2 d) hb hx hs
        have hf := full_c (.slice A n c) (.slice B m2 d) (O k) k hk1 hok
        have HC := Lib.hid (fun W (hW : Below wr.heap.size wr W) => hcall W (.slice A n c) (.slice B m2 d) (hb.trans (hW.mono hbs)) (hx.below hW) (hs.below hW))
        have q0 := hA.cell 0
        have q1 := hA.cell 1
        have q2 := hA.cell 2
        simp at q0 q1 q2
        clear hcall hcall' h0
        generalize ls[k] = line at *
        go_wp2_with fail
        refine (hf _).mono ?_
        rintro e w3 ⟨rfl, hb3⟩
        have hA3 := hA.keep hb3
        have hL3 := hL.keep hb3
        have hB3 := hb.trans (hb3.mono hbs)
        have hs3 := hB3.size
        have r0 := hA3.cell 0
        have r1 := hA3.cell 1
        have r2 := hA3.cell 2
        simp at r0 r1 r2
        have hlt3 := hA3.lt
        have hcall3 := HC.out w3 hb3
        clear q0 q1 q2 hf HC hb3 hA hL hb hx hs
        go_wp2_with fail
        refine hcall3.mono ?_
        rintro e w4 ⟨lv', sv', rfl, hx4, hs4, hn1, hn2, hb4⟩
        have hA4 := hA3.keep hb4
        have hL4 := hL3.keep hb4
        have hB4 := hB3.trans (hb4.mono hs3)
        have ne1 : lv'.ownBlock ≠ some w.heap.size := by
          rcases hn1 with e | h
          · rw [e]; exact hna
          · intro e; have := h _ e; omega
        have ne2 : sv'.ownBlock ≠ some w.heap.size := by
          rcases hn2 with e | h
          · rw [e]; exact hnb
          · intro e; have := h _ e; omega
        obtain ⟨A', n', c', rfl⟩ : ∃ A n c, lv' = .slice A n c := by obtain ⟨A, c, e, _⟩ := hx4; exact ⟨A, _, c, e⟩
        obtain ⟨B', m', d', rfl⟩ : ∃ A n c, sv' = .slice A n c := by obtain ⟨A, c, e, _⟩ := hs4; exact ⟨A, _, c, e⟩
        have p0 := hA4.cell 0
        have p1 := hA4.cell 1
        have p2 := hA4.cell 2
        have f0 := hA4.frozen 0
        have f1 := hA4.frozen 1
        have f2 := hA4.frozen 2
        have hlt4 := hA4.lt
        simp at p0 p1 p2
        have hg5 : w4.grownBy (((w4.setCell ⟨w.heap.size, 0, none⟩ (.slice A' n' c')).setCell ⟨w.heap.size, 1, none⟩ (.slice B' m' d')).setCell ⟨w.heap.size, 2, none⟩ (.string (O (k + 1)))) (some w.heap.size) := grown_trans (grown_setc _ _ _ _) (grown_trans (grown_setc _ _ _ _) (grown_setc _ _ _ _))
        have kk := ((hA4.set 0 (.slice A' n' c')).set 1 (.slice B' m' d')).set 2 (.string (O (k + 1)))
        simp at kk
        have HA5 := Lib.hid kk
        have HX5 : Hid (RdM (((w4.setCell ⟨w.heap.size, 0, none⟩ (.slice A' n' c')).setCell ⟨w.heap.size, 1, none⟩ (.slice B' m' d')).setCell ⟨w.heap.size, 2, none⟩ (.string (O (k + 1)))) (.slice A' n' c') (X (k + 1))) := Rd.grown hx4 hg5 (.inl ne1)
        have HY5 : Hid (RdS (((w4.setCell ⟨w.heap.size, 0, none⟩ (.slice A' n' c')).setCell ⟨w.heap.size, 1, none⟩ (.slice B' m' d')).setCell ⟨w.heap.size, 2, none⟩ (.string (O (k + 1)))) (.slice B' m' d') (Y (k + 1))) := Rd.grown hs4 hg5 (.inl ne2)
        have HL5 := Lib.hid (hL4.grown hg5 (fun e => by have := Option.some.inj e; omega))
        have HB5 := Lib.hid (hB4.trans (below_grown hg5 (B := w.heap.size) hB4.size (fun g e => by cases e; exact Nat.le_refl _)))
        clear hA3 hA4 hL3 hL4 hB3 hB4 hg5 hx4 hs4 kk hb4 hcall3 r0 r1 r2
        go_wp2
        go_roundw
        case rel => exact ⟨k + 1, HLT.out, by go_num, A', n', c', B', m', d', HA5.out, HX5.out, HY5.out, ne1, ne2, HL5.out, HB5.out⟩
        case measure => have := HLT.out; simp [intOf]; omega
    · have hkl : k = ls.length := by omega
      have q2 := hA.cell 2
      simp at q2
      have HO := Lib.hid (congrArg O hkl)
      go_wp2
      go_ret
      exact ⟨by rw [← HO.out]; rfl, hb⟩
end Go.Proofs.YtfedloljhocpgaaGreatDoor
namespace Go.PM
open Go.RowKit
def cutS (s : ByteArray) (c : UInt8) : Nat → List ByteArray × Nat
  | 0 => ([], 0)
  | i + 1 => if ∀ h : i < s.size, s[i] = c then ((cutS s c i).1 ++ [s.extract (cutS s c i).2 i], i + 1) else cutS s c i
def cutP (s : ByteArray) (c : UInt8) : List ByteArray := (cutS s c (s.size + 1)).1
theorem cutS_len (s : ByteArray) (c : UInt8) (i : Nat) : (cutS s c i).1.length ≤ i := by
  induction i with
  | zero => exact Nat.le_refl _
  | succ i ih =>
    rw [cutS]
    split
    · simp; omega
    · omega
theorem cutS_from (s : ByteArray) (c : UInt8) (i : Nat) : (cutS s c i).2 ≤ i := by
  induction i with
  | zero => exact Nat.le_refl _
  | succ i ih =>
    rw [cutS]
    split
    · exact Nat.le_refl _
    · omega
theorem cutS_end (s : ByteArray) (c : UInt8) : cutS s c (s.size + 1) = ((cutS s c s.size).1 ++ [s.extract (cutS s c s.size).2 s.size], s.size + 1) := by
  rw [cutS, if_pos]; intro h; omega
theorem cutS_yes (s : ByteArray) (c : UInt8) (i : Nat) (h : i < s.size) (hc : s[i] = c) : cutS s c (i + 1) = ((cutS s c i).1 ++ [s.extract (cutS s c i).2 i], i + 1) := by
  rw [cutS, if_pos]; intro _; exact hc
theorem cutS_no (s : ByteArray) (c : UInt8) (i : Nat) (h : i < s.size) (hc : ¬ s[i] = c) : cutS s c (i + 1) = cutS s c i := by
  rw [cutS, if_neg]; intro hh; exact hc (hh h)
theorem one_new (w : World) (a : Value) (t : TypeId) : ∀ j u, [a][j]? = some u → (w.alloc (.cells #[a] t)).cell? ((⟨w.heap.size, 0, none⟩ : Addr).add j) = some u := by
  intro j u hj
  match j, hj with
  | 0, hj => simp at hj; subst hj; simp [Addr.add]
end Go.PM
namespace Go.Proofs.YtfedloljhocpgaaGreatDoor
open Go.RowKit Go.PM
theorem infoStr : (Tryz.prog.info? 9).map (fun i => (i.zero, i.size, i.bytes)) = some (some (.string ⟨#[]⟩), 1, 16) := by kernel_rfl
theorem app_str {ops : Array Oper} {rest : List Oper} {o : Oper} {a : Act} {Q : Exit → Act → World → Prop} {w : World} (hgd : o.guard = none) (s x : Operand)
    (ho : o.op = .call { callee := .builtin .append, args := #[s, x], argTypes := #[31, 31] })
    (base : Nat) (v : Value) (ys : List ByteArray) (m : ByteArray) (ad : Addr) (c : Nat) (hs : a.eval s = v) (hx : a.eval x = .slice (some ad) 1 c)
    (hown : w.ownsRow base 9 1 v ys.length (ys.map Value.string)) (hnew : ∀ j u, [Value.string m][j]? = some u → w.cell? (ad.add j) = some u)
    (hlen : ys.length ≤ 1048576) (hbase : base ≤ w.heap.size)
    (h : ∀ v' w', w'.ownsRow base 9 1 v' (ys ++ [m]).length ((ys ++ [m]).map Value.string) → w.grownBy w' v.ownBlock → wpList Tryz.prog ops Q rest (a.put o.dst v') w') : wpList Tryz.prog ops Q (o :: rest) a w := by
  obtain ⟨i0, hi0, hz0, hz1, hz2⟩ := info_parts infoStr
  refine wpList_append_own w hgd s x _ ho base 9 i0 _ 1 16 Tryz.underlying31 hi0 hz0 hz1 hz2 rfl (by omega) v ys.length (ys.map Value.string) hs hown ad 1 c [Value.string m] hx rfl hnew
    (by intro u hu; simp at hu; subst hu; rfl) (by simp only [maxLen]; omega) (by omega) hbase ?_
  intro v' w' h2 h3 _
  refine h v' w' ?_ h3
  rw [List.map_append, List.length_append]
  simpa using h2

set_option maxRecDepth 100000 in
set_option maxHeartbeats 1600000 in
theorem l13Cut_c (s : ByteArray) (c : UInt8) (w : World) (hs : s.size ≤ 1048576) :
    Calls Tryz.prog 256 #[.string s, .int .u8 c.toNat] w fun e w' => ∃ v, e = .returned v ∧ w'.ownsRow w.heap.size 9 1 v (cutP s c).length ((cutP s c).map Value.string) ∧ Below w.heap.size w w' := by
  have hE := World.ownsRow_lit (e := 9) (base := w.heap.size) (size := 1) w #[] 0 (Nat.le_refl _) (Nat.zero_le _) rfl
  have HL := Lib.hid (fun k => cutS_len s c k)
  have HF := Lib.hid (fun k => cutS_from s c k)
  have HE := Lib.hid (cutS_end s c)
  have HY := Lib.hid (fun k h hc => cutS_yes s c k h hc)
  have HN := Lib.hid (fun k h hc => cutS_no s c k h hc)
  go_enter Tryz.func256, Tryz.ntmps256
  go_wp2
  go_loopw [5, 6, 7] (fun o f i wr => ∃ (k : Nat), k ≤ s.size + 1 ∧ i = .int .i64 k ∧ f = .int .i64 ((cutS s c k).2 : Nat) ∧ wr.ownsRow w.heap.size 9 1 o (cutS s c k).1.length ((cutS s c k).1.map Value.string) ∧ Below w.heap.size w wr) (fun _ _ i _ => s.size + 1 - (intOf i).toNat)
  case atStart => exact ⟨0, by omega, rfl, rfl, hE, by (repeat' (first | (with_reducible exact Below.refl _ _) | (with_reducible assumption) | (with_reducible refine Below.alloc ?_ ?_ _) | (with_reducible refine Below.drew ?_) | (with_reducible refine Below.setCell ?_ ?_ _) | (with_reducible exact Nat.le_refl _) | omega | ((repeat (first | rewrite [World.size_alloc] | rewrite [World.size_setCell] | rewrite [World.size_drew])); omega) | (simp; omega) | (simp; done)))⟩
  case round =>
    obtain ⟨k, hk, rfl, rfl, ho, hb⟩ := hrel
    have hbs := hb.size
    have hlen := HL.out k
    have hfr := HF.out k
    by_cases hlt : k ≤ s.size
    · have f0 : (0 : Int) ≤ ((cutS s c k).2 : Nat) := by omega
      have f1 : ((cutS s c k).2 : Int) ≤ (k : Int) := by omega
      have i1 : (k : Int) ≤ (s.size : Int) := by omega
      have hst := HY.out k
      have hno := HN.out k
      have hen := HE.out
      by_cases heq : k = s.size
      · subst heq
        have q1 : ((s.size : Int) == s.size) = true := by simp
        have HC : Hid (cutS s c (s.size + 1) = ((cutS s c s.size).1 ++ [s.extract (cutS s c s.size).2 s.size], s.size + 1)) := by
          show _ = _
          exact hen
        clear hst hno hen
        generalize cutS s c s.size = r at *
        obtain ⟨ys, fr⟩ := r
        simp only at *
        have hnw := one_new wr (.string (s.extract fr s.size)) 9
        go_wp2_with (at_builtin; refine held ?_)
        unfold Held
        refine app_str rfl (.tmp 26) (.tmp 31) rfl w.heap.size u5 ys (s.extract fr s.size) ⟨wr.heap.size, 0, none⟩ 1 (by rfl) (by rfl) (own_keep ho ((Below.refl _ _).alloc (Nat.le_refl _) _)) hnw (by omega) (by simp; omega) ?_
        intro v' w3 hown3 hgrow3
        go_wp2
        have hb3 := below_grown hgrow3 (B := w.heap.size) (by simp; omega) (own_block_ge ho)
        go_roundw
        case rel => exact ⟨s.size + 1, by omega, by go_num, by rw [HC.out]; go_num, by rw [HC.out]; exact hown3, (hb.alloc hbs _).trans hb3⟩
        case measure => simp [intOf] <;> omega
      · have q1 : ((k : Int) == s.size) = false := by simp; omega
        have hk2 : k < s.size := by omega
        by_cases hcc : s[k] = c
        · have q2 : ((s[k].toNat : Int) == c.toNat) = true := by simp [hcc]
          have HC : Hid (cutS s c (k + 1) = ((cutS s c k).1 ++ [s.extract (cutS s c k).2 k], k + 1)) := hst hk2 hcc
          clear hst hno hen hcc
          generalize cutS s c k = r at *
          obtain ⟨ys, fr⟩ := r
          simp only at *
          have hnw := one_new wr (.string (s.extract fr k)) 9
          go_wp2_with (at_builtin; refine held ?_)
          unfold Held
          refine app_str rfl (.tmp 26) (.tmp 31) rfl w.heap.size u5 ys (s.extract fr k) ⟨wr.heap.size, 0, none⟩ 1 (by rfl) (by rfl) (own_keep ho ((Below.refl _ _).alloc (Nat.le_refl _) _)) hnw (by omega) (by simp; omega) ?_
          intro v' w3 hown3 hgrow3
          go_wp2
          have hb3 := below_grown hgrow3 (B := w.heap.size) (by simp; omega) (own_block_ge ho)
          go_roundw
          case rel => exact ⟨k + 1, by omega, by go_num, by rw [HC.out]; go_num, by rw [HC.out]; exact hown3, (hb.alloc hbs _).trans hb3⟩
          case measure => simp [intOf] <;> omega
        · have q2 : ((s[k].toNat : Int) == c.toNat) = false := by
            simp only [beq_eq_false_iff_ne]
            intro e
            exact hcc (UInt8.toNat_inj.1 (by omega))
          have HC : Hid (cutS s c (k + 1) = cutS s c k) := hno hk2 hcc
          clear hst hno hen hcc
          go_wp2
          go_roundw
          case rel => exact ⟨k + 1, by omega, by go_num, by rw [HC.out], by rw [HC.out]; exact ho, hb⟩
          case measure => simp [intOf] <;> omega
    · have hk' : k = s.size + 1 := by omega
      have h3 := ho
      rw [hk'] at h3
      have H3 := Lib.hid h3
      clear h3 hk' ho
      go_wp2
      go_ret
      exact ⟨_, rfl, H3.out, hb⟩
end Go.Proofs.YtfedloljhocpgaaGreatDoor
namespace Go.PM
open Go.RowKit
open Go.Lib (indexByte)
def pcsL (c : UInt8) : List UInt8 → List (List UInt8)
  | [] => [[]]
  | b :: l => if b = c then [] :: pcsL c l else match pcsL c l with
    | p :: ps => (b :: p) :: ps
    | [] => [[b]]
theorem pcsL_none (c : UInt8) (l : List UInt8) (h : c ∉ l) : pcsL c l = [l] := by
  induction l with
  | nil => rfl
  | cons b l ih =>
    rw [List.mem_cons, not_or] at h
    rw [pcsL, if_neg (fun e => h.1 e.symm), ih h.2]
theorem pcsL_some (c : UInt8) (l1 l2 : List UInt8) (h : c ∉ l1) : pcsL c (l1 ++ c :: l2) = l1 :: pcsL c l2 := by
  induction l1 with
  | nil => rw [List.nil_append, pcsL, if_pos rfl]
  | cons b l ih =>
    rw [List.mem_cons, not_or] at h
    rw [List.cons_append, pcsL, if_neg (fun e => h.1 e.symm), ih h.2]
theorem ix_some (c : UInt8) (l1 l2 : List UInt8) (h : c ∉ l1) : indexByte (l1 ++ c :: l2) c = l1.length := by
  induction l1 with
  | nil => simp [indexByte]
  | cons b l ih =>
    rw [List.mem_cons, not_or] at h
    rw [List.cons_append, indexByte, ih h.2]
    have hb : (b == c) = false := by simpa using fun e => h.1 e.symm
    have h1 : (((l.length : Nat) : Int) == -1) = false := by simp
    rw [hb, h1]
    simp
def mkB (l : List UInt8) : ByteArray := ⟨l.toArray⟩
def pcsB (c : UInt8) (s : ByteArray) : List ByteArray := (pcsL c s.data.toList).map mkB
theorem ext_list (s : ByteArray) (a b : Nat) : (s.extract a b).data.toList = (s.data.toList.drop a).take (b - a) := by
  rw [ByteArray.data_extract, Array.toList_extract]
  try simp [List.extract_eq_drop_take]
theorem split_at (c : UInt8) (l : List UInt8) (h : c ∈ l) : ∃ l1 l2, l = l1 ++ c :: l2 ∧ c ∉ l1 := by
  induction l with
  | nil => cases h
  | cons b l ih =>
    by_cases e : b = c
    · subst e; exact ⟨[], l, rfl, by simp⟩
    · have h2 : c ∈ l := by
        rcases List.mem_cons.1 h with h | h
        · exact absurd h.symm e
        · exact h
      obtain ⟨l1, l2, rfl, h3⟩ := ih h2
      exact ⟨b :: l1, l2, rfl, by rw [List.mem_cons, not_or]; exact ⟨fun h => e h.symm, h3⟩⟩
theorem pcsB_cut (c : UInt8) (s : ByteArray) : pcsB c s = if (cutB s c).2.2 then (cutB s c).1 :: pcsB c (cutB s c).2.1 else [(cutB s c).1] := by
  by_cases h : c ∈ s.data.toList
  · obtain ⟨l1, l2, e, hn⟩ := split_at c _ h
    have hi : indexByte s.data.toList c = (l1.length : Nat) := by rw [e]; exact ix_some c l1 l2 hn
    have hB : cutB s c = (s.extract 0 l1.length, s.extract (l1.length + 1) s.size, true) := by
      unfold cutB
      rw [hi, if_pos (by omega)]
      rfl
    rw [hB, if_pos rfl]
    unfold pcsB
    rw [e, pcsL_some c l1 l2 hn, List.map_cons]
    have hsz : s.size = l1.length + 1 + l2.length := by rw [← size_data, e]; simp; omega
    have h1 : s.extract 0 l1.length = mkB l1 := by
      apply Go.WideShapes.bytes_inj
      rw [ext_list, e]; simp [mkB]
    have h2 : (s.extract (l1.length + 1) s.size).data.toList = l2 := by
      rw [ext_list, e, hsz]
      have h3 : (l1 ++ c :: l2).drop (l1.length + 1) = l2 := by
        rw [show l1 ++ c :: l2 = (l1 ++ [c]) ++ l2 by simp, show l1.length + 1 = (l1 ++ [c]).length by simp]
        exact List.drop_left
      rw [h3]
      exact List.take_of_length_le (by omega)
    rw [h1, h2]
  · have hi : ¬ 0 ≤ indexByte s.data.toList c := fun h2 => h ((indexByte_mem _ _).1 h2)
    have hB : cutB s c = (s, ⟨#[]⟩, false) := if_neg hi
    rw [hB]
    unfold pcsB
    rw [pcsL_none c _ h]
    rfl
theorem cutB_less (c : UInt8) (s : ByteArray) (h : (cutB s c).2.2 = true) : (cutB s c).2.1.size < s.size := by
  unfold cutB at h ⊢
  split at h
  · next hi =>
    rw [if_pos hi]
    have := ixB_lt s.data.toList c
    rw [size_data] at this
    simp only [ByteArray.size_extract]
    omega
  · cases h
theorem cutB_size (c : UInt8) (s : ByteArray) : (cutB s c).1.size ≤ s.size ∧ (cutB s c).2.1.size ≤ s.size := by
  unfold cutB
  split
  · simp only [ByteArray.size_extract]; omega
  · exact ⟨Nat.le_refl _, Nat.zero_le _⟩
theorem scan_pcs (s : ByteArray) (c : UInt8) : ∀ k, k ≤ s.size → ((cutS s c k).1 ++ (pcsL c (s.data.toList.drop (cutS s c k).2)).map mkB = pcsB c s) ∧ c ∉ (s.data.toList.drop (cutS s c k).2).take (k - (cutS s c k).2) ∧ (cutS s c k).2 ≤ k
  | 0, _ => ⟨rfl, by simp [cutS], Nat.le_refl _⟩
  | k + 1, hk => by
    obtain ⟨h1, h2, h3⟩ := scan_pcs s c k (by omega)
    have hks : k < s.size := by omega
    have hkl : k < s.data.toList.length := by rw [size_data]; exact hks
    have hsk : s.data.toList[k] = s[k] := rfl
    by_cases hc : s[k] = c
    · rw [cutS_yes s c k hks hc]
      refine ⟨?_, by simp, Nat.le_refl _⟩
      rw [← h1]
      generalize hfr : (cutS s c k).2 = fr at *
      have e : s.data.toList.drop fr = (s.data.toList.drop fr).take (k - fr) ++ c :: s.data.toList.drop (k + 1) := by
        have e1 := (List.take_append_drop (k - fr) (s.data.toList.drop fr)).symm
        rw [List.drop_drop, show fr + (k - fr) = k by omega, List.drop_eq_getElem_cons hkl, hsk, hc] at e1
        exact e1
      have e3 := pcsL_some c _ (s.data.toList.drop (k + 1)) h2
      rw [← e] at e3
      rw [e3, List.map_cons]
      have e4 : s.extract fr k = mkB ((s.data.toList.drop fr).take (k - fr)) := by
        apply Go.WideShapes.bytes_inj
        rw [ext_list]; rfl
      rw [e4]
      simp
    · rw [cutS_no s c k hks hc]
      refine ⟨h1, ?_, by omega⟩
      generalize hfr : (cutS s c k).2 = fr at *
      rw [show k + 1 - fr = (k - fr) + 1 by omega]
      intro hm
      rw [List.take_add_one] at hm
      rcases List.mem_append.1 hm with h | h
      · exact h2 h
      · rw [List.getElem?_drop, show fr + (k - fr) = k by omega, List.getElem?_eq_getElem hkl, hsk] at h
        have h5 : c = s[k] := by simpa using h
        exact hc h5.symm
theorem cutP_pcs (s : ByteArray) (c : UInt8) : cutP s c = pcsB c s := by
  obtain ⟨h1, h2, h3⟩ := scan_pcs s c s.size (Nat.le_refl _)
  unfold cutP
  rw [cutS_end]
  rw [← h1]
  generalize hfr : (cutS s c s.size).2 = fr at *
  have hl : (s.data.toList.drop fr).take (s.size - fr) = s.data.toList.drop fr := by
    rw [List.take_of_length_le]
    rw [List.length_drop, size_data]; exact Nat.le_refl _
  rw [hl] at h2
  rw [pcsL_none c _ h2]
  have e4 : s.extract fr s.size = mkB (s.data.toList.drop fr) := by
    apply Go.WideShapes.bytes_inj
    rw [ext_list, hl]; rfl
  rw [e4]; rfl
def tot : List (List UInt8) → Nat
  | [] => 0
  | p :: ps => p.length + 1 + tot ps
theorem tot_pcs (c : UInt8) (l : List UInt8) : tot (pcsL c l) = l.length + 1 := by
  induction l with
  | nil => rfl
  | cons b l ih =>
    unfold pcsL
    split
    · simp only [tot, List.length_nil, List.length_cons]; omega
    · cases h : pcsL c l with
      | nil => rw [h] at ih; simp [tot] at ih
      | cons p ps =>
        rw [h] at ih
        simp only [tot, List.length_cons] at ih ⊢
        omega
theorem tot_three : ∀ ps : List (List UInt8), (∀ p ∈ ps, p.length = 3) → tot ps = 4 * ps.length
  | [], _ => rfl
  | p :: ps, h => by
    have h1 := h p (by simp)
    have h2 := tot_three ps (fun q hq => h q (by simp [hq]))
    simp only [tot, List.length_cons]
    omega
theorem cutP_three {s : ByteArray} {c : UInt8} (h : ∀ x ∈ cutP s c, x.size = 3) : 4 * (cutP s c).length = s.size + 1 := by
  rw [cutP_pcs] at h ⊢
  unfold pcsB at h ⊢
  rw [List.length_map, ← tot_three _ (fun p hp => ?_), tot_pcs, size_data]
  have := h (mkB p) (List.mem_map.2 ⟨p, hp, rfl⟩)
  rw [← size_data] at this
  exact this
end Go.PM
namespace Go.PM
open Go.RowKit
def sinkB1 (md : Region.Mode) (ops : Array Oper) (n : Nat) : Bool :=
  (List.range n).all fun i => decide (i = 0) || (List.range (n + 1)).any fun j => decide (i < j) && Region.waitsFor md ops j i
section
variable {P : Program} {ops : Array Oper} {md : Region.Mode}
theorem tail_waits1 {n : Nat} {listed : Array Bool} (hs : sinkB1 md ops n = true) (hc : Region.chainB md ops n = true) (hn : n < ops.size) (inv : HeadInv md ops n listed) :
    ∀ (d i : Nat), n - i = d → 0 < i → i < n → listed.getD i true = false → ∀ t, n ≤ t → t ∉ Region.ready md ops listed := by
  intro d
  induction d using Nat.strongRecOn with
  | _ d ih =>
    intro i hd hi0 hi hun t ht hr
    obtain ⟨_, ot, hot, hall⟩ := mem_ready.1 hr
    have htlt : t < ops.size := (Array.getElem?_eq_some_iff.1 hot).1
    by_cases htn : t = n
    · subst htn
      have h1 := List.all_eq_true.1 hs i (List.mem_range.2 hi)
      rw [Bool.or_eq_true, decide_eq_true_eq] at h1
      have h1 := h1.resolve_left (by omega)
      obtain ⟨j, hj, hj2⟩ := List.any_eq_true.1 h1
      simp only [Bool.and_eq_true, decide_eq_true_eq] at hj2
      obtain ⟨oj, hoj, e, he, hb, hon⟩ := Region.waitsFor_spec hj2.2
      have hjle : j ≤ t := by have := List.mem_range.1 hj; omega
      by_cases hjt : j = t
      · subst hjt
        have : oj = ot := Option.some.inj (hoj.symm.trans hot)
        subst this
        have h2 := hall e he hb
        rw [hon, getD_both hun] at h2
        cases h2
      · cases hl : listed.getD j false with
        | true =>
          have h2 := inv.closed j oj hoj hl e he hb
          rw [hon, getD_both hun] at h2
          cases h2
        | false =>
          have hjs : j < listed.size := by rw [inv.size]; omega
          exact ih (t - j) (by omega) j rfl (by omega) (by omega) (getD_in hjs hl) t (Nat.le_refl _) hr
    · have h1 := List.all_eq_true.1 hc t (List.mem_range.2 htlt)
      simp only [Bool.or_eq_true, decide_eq_true_eq] at h1
      rcases h1 with h1 | h1
      · omega
      · obtain ⟨o', ho', e, he, hb, hon⟩ := Region.waitsFor_spec h1
        have : o' = ot := Option.some.inj (ho'.symm.trans hot)
        subst this
        have h2 := hall e he hb
        rw [hon, getD_both (inv.tail (t - 1) (by omega) (by omega))] at h2
        cases h2
end
section
variable {F : Fence} {m : Nat} {P : Program} {ops : Array Oper} {md : Region.Mode} {C D : World → Prop} {Q : Exit → Act → World → Prop}
theorem wpAnyLQ1_first {n i : Nat} {oi : Oper} {v : Value} {L : Array Bool → Act → Prop} (hi : ops[i]? = some oi) (hsel : ∀ (j : Nat) (o : Oper) cs b, ops[j]? = some o → o.op ≠ .select cs b)
    (hi0 : 0 < i) (hs : sinkB1 md ops n = true) (hc : Region.chainB md ops n = true) (hn : n < ops.size) (hin : i < n)
    (hdone : ∀ listed a, L listed a → ∀ j ∈ Region.ready md ops listed, n ≤ j) :
    ∀ (f : Nat) (listed : Array Bool) (a : Act), HeadInv md ops n listed →
      (∀ j oj, ops[j]? = some oj → j ≠ i → listed.getD j true = false → (∀ e ∈ oj.after, Region.binds md e = true → e.on ≠ i) → oi.apart ops oj = true) →
      i ∈ Region.ready md ops listed → YieldsQuiet F m P ops C oi v a →
      wpAnyLQIn F m P md ops C n L f (listed.setIfInBounds i true) (a.put oi.dst v) → wpAnyLQIn F m P md ops C n L (f + 1) listed a := by
  intro f
  induction f with
  | zero =>
    intro listed a inv _ hr hy H
    have hun := (mem_ready.1 hr).1
    refine ⟨fun h => (by rw [h] at hr; cases hr), fun j hj => ?_⟩
    have hjn : j < n := by
      rcases Nat.lt_or_ge j n with h | h
      · exact h
      · exact absurd hj (tail_waits1 hs hc hn inv _ i rfl hi0 hin hun j h)
    refine ⟨hjn, ?_⟩
    by_cases hji : j = i
    · subst hji; exact hy.qOpIn hi H
    · have := hdone _ _ H j (ready_mono hj hji)
      omega
  | succ f ih =>
    intro listed a inv hfree hr hy H
    have hun := (mem_ready.1 hr).1
    refine ⟨fun h => (by rw [h] at hr; cases hr), fun j hj => ?_⟩
    have hjn : j < n := by
      rcases Nat.lt_or_ge j n with h | h
      · exact h
      · exact absurd hj (tail_waits1 hs hc hn inv _ i rfl hi0 hin hun j h)
    refine ⟨hjn, ?_⟩
    by_cases hji : j = i
    · subst hji; exact hy.qOpIn hi H
    · have h1 := (H.2 j (ready_mono hj hji)).2
      obtain ⟨hjun, oj, hoj, hall⟩ := mem_ready.1 hj
      have hnot : ∀ e ∈ oj.after, Region.binds md e = true → e.on ≠ i := fun e he hb heq => by
        have h1 := hall e he hb
        rw [heq, getD_both hun] at h1
        cases h1
      have h2 := qOpIn_put hoj (hfree j oj hoj hji hjun hnot) (fun cs b => hsel i oi cs b hi) (fun cs b => hsel j oj cs b hoj) hy h1
      have hfree' : ∀ k ok, ops[k]? = some ok → k ≠ i → (listed.setIfInBounds j true).getD k true = false →
          (∀ e ∈ ok.after, Region.binds md e = true → e.on ≠ i) → oi.apart ops ok = true := fun k ok hk hki hun hno => by
        refine hfree k ok hk hki ?_ hno
        by_cases hjk : j = k
        · subst hjk; exact hjun
        · rw [getD_set_ne true hjk] at hun; exact hun
      refine qOpIn_mono (fun a' h3 => ih (listed.setIfInBounds j true) a' (inv.set hj hjn) hfree' (ready_mono hr (Ne.symm hji)) h3.1 ?_) h2
      rw [Array.setIfInBounds_comm _ _ hji]
      exact h3.2

theorem wpAnyLQ1_lex {n g : Nat} {Lq : Act → Prop} (hsel : Region.noSelect ops = true) (hs : sinkB1 md ops n = true) (hc : Region.chainB md ops n = true) (hn : n < ops.size) :
    ∀ (l : List Oper) (k : Nat) (listed : Array Bool) (a : Act), 0 < k → (∀ j, j < l.length → l[j]? = ops[k + j]?) → k + l.length = n → HeadInv md ops n listed →
    Region.lexHead md ops g l.length k listed = true → wpQuietIn F m P ops C Lq l a →
    wpAnyLQIn F m P md ops C n (fun listed' a' => Region.seqB md ops g n listed' = true ∧ Lq a') l.length listed a
  | [], k, listed, a, _, _, hk, _, hB, h => by
    have : k = n := by simpa using hk
    subst this
    exact ⟨by simpa [Region.lexHead] using hB, h⟩
  | o :: l, k, listed, a, hk0, hl, hk, inv, hB, h => by
    have h0 : ops[k]? = some o := by simpa using (hl 0 (by simp)).symm
    simp only [List.length_cons, Region.lexHead, Bool.and_eq_true] at hB
    obtain ⟨⟨hr, hf⟩, hB'⟩ := hB
    have hkn : k < n := by simp only [List.length_cons] at hk; omega
    have hr' : k ∈ Region.ready md ops listed := by simpa using hr
    have hst : qOpIn F m P ops C k (wpQuietIn F m P ops C Lq l) a := by unfold qOpIn; simp only [h0]; exact h
    obtain ⟨v, hy, hK⟩ := yieldsQuiet_of_qOpIn h0 hst
    exact wpAnyLQ1_first h0 (Region.noSelect_spec hsel) hk0 hs hc hn hkn (fun listed' a' hL => seqB_ready hL.1) l.length listed a inv (Region.free_spec h0 hf) hr' hy
      (wpAnyLQ1_lex hsel hs hc hn l (k + 1) _ _ (by omega) (fun j hj => by have := hl (j + 1) (by simp; omega); simpa [Nat.add_assoc, Nat.add_comm 1 j] using this) (by simp only [List.length_cons] at hk; omega) (inv.set hr' hkn) hB' hK)

def wpAnyT (F : Fence) (m : Nat) (P : Program) (md : Region.Mode) (ops : Array Oper) (D : World → Prop) (Q : Exit → Act → World → Prop) : Nat → Array Bool → Act → World → Prop
  | 0, listed, a, w => D w ∧ Region.ready md ops listed = [] ∧ Q .normal a w
  | f + 1, listed, a, w => D w ∧ (Region.ready md ops listed = [] → Q .normal a w) ∧ ∀ j ∈ Region.ready md ops listed,
      wpOpIn F m P ops Q j (fun a' w' => if Region.waitsFor md ops j 0 then wpAnyIn F m P md ops Q f (listed.setIfInBounds j true) a' w' else wpAnyT F m P md ops D Q f (listed.setIfInBounds j true) a' w') a w
theorem wpAnyT_any : ∀ (f : Nat) (listed : Array Bool) (a : Act) (w : World), wpAnyT F m P md ops D Q f listed a w → wpAnyIn F m P md ops Q f listed a w
  | 0, _, _, _, h => h.2
  | f + 1, listed, a, w, h => ⟨h.2.1, fun j hj => wpOpIn_mono (fun a' w' h' => by
      split at h'
      · exact h'
      · exact wpAnyT_any f _ a' w' h') (h.2.2 j hj)⟩
def YieldsD (P : Program) (ops : Array Oper) (D : World → Prop) (o : Oper) (v : Value) (a : Act) : Prop :=
  Region.wanted o (yielded ops a.tmps) = true ∧ (∀ w, D w → (execOp a.eval o).run P w = .ok (.value v) w) ∧ ∀ w, o.about P w a.eval = none
theorem YieldsD.of_same {o : Oper} {v : Value} {a a' : Act} (hy : YieldsD P ops D o v a) (he : execOp a'.eval o = execOp a.eval o) (hw : Region.wanted o (yielded ops a'.tmps) = Region.wanted o (yielded ops a.tmps)) (hb : ∀ w, o.about P w a'.eval = o.about P w a.eval) : YieldsD P ops D o v a' := by
  unfold YieldsD at *
  rw [he, hw]
  exact ⟨hy.1, hy.2.1, fun w => by rw [hb w]; exact hy.2.2 w⟩
theorem YieldsD.op {i : Nat} {o : Oper} {v : Value} {a : Act} (hro : F.round = none) (hi : ops[i]? = some o) (hy : YieldsD P ops D o v a) {K : Act → World → Prop} {w : World} (hw : D w) (h : K (a.put o.dst v) w) : wpOpIn F m P ops Q i K a w := by
  unfold wpOpIn
  simp only [hi, hy.1, if_true]
  unfold Oper.wpIn
  rw [hro, Oper.semAt_none, hy.2.1 w hw]
  exact ⟨(fun f hf => by rw [hy.2.2 w] at hf; cases hf), h⟩
theorem opD_put {j : Nat} {oi oj : Oper} {v : Value} (hro : F.round = none) (hj : ops[j]? = some oj) (hap : oi.apart ops oj = true)
    (hsi : ∀ cs b, oi.op ≠ .select cs b) (hsj : ∀ cs b, oj.op ≠ .select cs b)
    (hQ : ∀ c a w, Q (.panic c) (a.put oi.dst v) w → Q (.panic c) a w) {K : Act → World → Prop} {a : Act} {w : World}
    (hy : YieldsD P ops D oi v a) (h : wpOpIn F m P ops Q j K (a.put oi.dst v) w) :
    wpOpIn F m P ops Q j (fun a' w' => YieldsD P ops D oi v a' ∧ K (a'.put oi.dst v) w') a w := by
  obtain ⟨h1, h2, h3⟩ := Oper.apart_spec hap
  have keep : ∀ (a : Act), YieldsD P ops D oi v a → ∀ u, YieldsD P ops D oi v (a.put oj.dst u) := fun a hy u =>
    hy.of_same (execOp_put oi hsi a oj.dst u h3) (wanted_put oi a oj.dst u h3) (fun w => about_put oi w a oj.dst u h3)
  have keepD : ∀ d, YieldsD P ops D oi v { a with defers := d :: a.defers } := fun d => hy.of_same rfl rfl (fun _ => rfl)
  unfold wpOpIn at *
  simp only [hj] at *
  rw [wanted_put oj a oi.dst v h1, about_put oj w a oi.dst v h1] at h
  split
  · rename_i hw
    simp only [hw, if_true] at h
    unfold Oper.wpIn at *
    rw [about_put oj w a oi.dst v h1] at h
    refine ⟨h.1, ?_⟩
    have h := h.2
    rw [hro, Oper.semAt_none, execOp_put oj hsj a oi.dst v h1] at h
    rw [hro, Oper.semAt_none]
    generalize (execOp a.eval oj).run P w = r at *
    cases r with
    | ok x w' =>
      cases x <;> simp only [Oper.uponIn] at h ⊢
      case value u => exact ⟨keep a hy u, by rw [← Act.put_comm a v u h2]; exact h⟩
      case skip => exact ⟨keep a hy _, by rw [← Act.put_comm a v undef h2]; exact h⟩
      case defer d =>
        refine ⟨keep _ (keepD d) _, ?_⟩
        rw [← Act.put_comm _ v undef h2, ← Act.put_defers]
        exact h
      case enter f args =>
        refine ⟨h.1, CallsIn.mono h.2 fun e w'' he => ?_⟩
        cases e with
        | returned u => exact ⟨keep a hy u, by rw [← Act.put_comm a v u h2]; exact he⟩
        | panicked c => exact hQ _ _ _ he
        | outgrown => exact he
      case row row args => exact ⟨h.1, RowsIn.mono h.2 fun u w'' he => ⟨keep a hy u, by rw [← Act.put_comm a v u h2]; exact he⟩⟩
      case round l f tmps assign body =>
        refine ⟨h.1, RoundIn.mono h.2 fun e w'' he => ?_⟩
        cases e with
        | returned u => exact ⟨keep a hy u, by rw [← Act.put_comm a v u h2]; exact he⟩
        | panicked c => exact hQ _ _ _ he
        | outgrown => exact he
    | halt x w' =>
      cases x <;> simp only [Oper.uponIn] at h ⊢
      case panic u => exact hQ _ _ _ h
  · rename_i hw
    simp only [hw] at h
    exact ⟨h.1, keep a hy _, by rw [← Act.put_comm a v undef h2]; exact h.2⟩
theorem late_first {oi : Oper} {v : Value} (hro : F.round = none) (hi : ops[0]? = some oi) (hsel : ∀ (j : Nat) (o : Oper) cs b, ops[j]? = some o → o.op ≠ .select cs b)
    (hQ : ∀ c a w, Q (.panic c) (a.put oi.dst v) w → Q (.panic c) a w) :
    ∀ (fuel : Nat) (listed : Array Bool) (a : Act) (w : World),
      (∀ j oj, ops[j]? = some oj → j ≠ 0 → listed.getD j true = false → (∀ e ∈ oj.after, Region.binds md e = true → e.on ≠ 0) → oi.apart ops oj = true) →
      0 ∈ Region.ready md ops listed → YieldsD P ops D oi v a →
      wpAnyT F m P md ops D Q fuel (listed.setIfInBounds 0 true) (a.put oi.dst v) w → wpAnyIn F m P md ops Q (fuel + 1) listed a w := by
  intro fuel
  induction fuel with
  | zero =>
    intro listed a w _ hr hy H
    refine ⟨fun h => (by rw [h] at hr; cases hr), fun j hj => ?_⟩
    by_cases hji : j = 0
    · subst hji; exact hy.op hro hi H.1 H.2
    · have := ready_mono hj hji
      rw [H.2.1] at this
      cases this
  | succ fuel ih =>
    intro listed a w hfree hr hy H
    refine ⟨fun h => (by rw [h] at hr; cases hr), fun j hj => ?_⟩
    by_cases hji : j = 0
    · subst hji; exact hy.op hro hi H.1 (wpAnyT_any _ _ _ _ H)
    · have h1 := H.2.2 j (ready_mono hj hji)
      obtain ⟨hjun, oj, hoj, hall⟩ := mem_ready.1 hj
      have hun0 := (mem_ready.1 hr).1
      have hnot : ∀ e ∈ oj.after, Region.binds md e = true → e.on ≠ 0 := fun e he hb heq => by
        have h1 := hall e he hb
        rw [heq, getD_both hun0] at h1
        cases h1
      have hnw : Region.waitsFor md ops j 0 = false := by
        cases hwf : Region.waitsFor md ops j 0 with
        | false => rfl
        | true =>
          obtain ⟨o', ho', e, he, hb, hon⟩ := Region.waitsFor_spec hwf
          have : o' = oj := Option.some.inj (ho'.symm.trans hoj)
          subst this
          exact absurd hon (hnot e he hb)
      have h2 := opD_put hro hoj (hfree j oj hoj hji hjun hnot) (fun cs b => hsel 0 oi cs b hi) (fun cs b => hsel j oj cs b hoj) hQ hy h1
      have hfree' : ∀ k ok, ops[k]? = some ok → k ≠ 0 → (listed.setIfInBounds j true).getD k true = false →
          (∀ e ∈ ok.after, Region.binds md e = true → e.on ≠ 0) → oi.apart ops ok = true := fun k ok hk hki hun hno => by
        refine hfree k ok hk hki ?_ hno
        by_cases hjk : j = k
        · subst hjk; exact hjun
        · rw [getD_set_ne true hjk] at hun; exact hun
      refine wpOpIn_mono (fun a' w' h3 => ih (listed.setIfInBounds j true) a' w' hfree' (ready_mono hr (Ne.symm hji)) h3.1 ?_) h2
      have h4 := h3.2
      rw [hnw, if_neg (by decide)] at h4
      rw [Array.setIfInBounds_comm _ _ hji]
      exact h4
theorem wpAnyT_of_headQ {n g : Nat} {L : Array Bool → Act → Prop} (hro : F.round = none) (hCD : ∀ w, C w → D w) (hL : ∀ listed a w, C w → L listed a → wpAnyT F m P md ops D Q g listed a w) :
    ∀ (f : Nat) (listed : Array Bool) (a : Act) (w : World), C w → wpAnyLQIn F m P md ops C n L f listed a → wpAnyT F m P md ops D Q (f + g) listed a w
  | 0, listed, a, w, hw, h => by rw [Nat.zero_add]; exact hL _ _ _ hw h
  | f + 1, listed, a, w, hw, h => by
    rw [show f + 1 + g = (f + g) + 1 by omega]
    refine ⟨hCD w hw, fun h0 => absurd h0 h.1, fun i hi => wpOpIn_of_qOpIn hro hw (fun a' w' hw' h' => ?_) (h.2 i hi).2⟩
    have := wpAnyT_of_headQ hro hCD hL f _ a' w' hw' h'
    split
    · exact wpAnyT_any _ _ _ _ this
    · exact this
def lateB (ops : Array Oper) (n : Nat) : Bool :=
  Region.noSelect ops && decide (0 < n) && decide (n + 1 < ops.size) && sinkB1 .any ops n && Region.chainB .any ops n && Region.lexHead .any ops (ops.size - n) (n - 1) 1 ((Array.replicate ops.size false).setIfInBounds 0 true) &&
    Region.waitsFor .any ops (n + 1) 0 && Region.free .any ops (Array.replicate ops.size false) 0 && (Region.ready .any ops (Array.replicate ops.size false)).contains 0
theorem any_late {a : Act} {w : World} {l : List Oper} (n : Nat) (hro : F.round = none) (hB : lateB l.toArray n = true) (o0 on : Oper) (h0 : l[0]? = some o0) (hon : l[n]? = some on) (hgn : on.guard = none) (v0 : Value)
    (hQ : ∀ c a w, Q (.panic c) (a.put o0.dst v0) w → Q (.panic c) a w) (hy : YieldsD P l.toArray D o0 v0 a) (hCD : ∀ w, C w → D w) (hC : C w)
    (h : wpQuietIn F m P l.toArray C (fun a' => ∀ w', C w' → ∀ K : Act → World → Prop, (∀ a'' w'', D w'' → wpListIn F m P l.toArray Q (l.drop (n + 1)) a'' w'' → K a'' w'') → Oper.wpIn F m P on a' w' K Q) ((l.drop 1).take (n - 1)) (a.put o0.dst v0)) :
    wpAnyIn F m P .any l.toArray Q l.toArray.size (Array.replicate l.toArray.size false) a w := by
  simp only [lateB, Bool.and_eq_true, decide_eq_true_eq] at hB
  obtain ⟨⟨⟨⟨⟨⟨⟨⟨hsel, hn0⟩, hn⟩, hs⟩, hc⟩, hlex⟩, hw0⟩, hf0⟩, hr0⟩ := hB
  have hn' : n + 1 < l.length := by simpa using hn
  have hr0' : 0 ∈ Region.ready .any l.toArray (Array.replicate l.toArray.size false) := by simpa using hr0
  have h0a : l.toArray[0]? = some o0 := by simpa using h0
  have inv0 : HeadInv .any l.toArray n (Array.replicate l.toArray.size false) :=
    ⟨by simp, fun j oj _ hl => (by rw [getD_replicate_false] at hl; cases hl), fun t _ ht => getD_in (by simpa using ht) (getD_replicate_false _ _)⟩
  have inv1 := inv0.set hr0' hn0
  have htl : ((l.drop 1).take (n - 1)).length = n - 1 := by simp; omega
  have H := wpAnyLQ1_lex (md := .any) (g := l.toArray.size - n) hsel hs hc (by omega) ((l.drop 1).take (n - 1)) 1 _ (a.put o0.dst v0) (by decide) (fun j hj => by
    have hj' : j < n - 1 := by rw [htl] at hj; exact hj
    simp [hj', Nat.add_comm]) (by rw [htl]; omega) inv1 (by rw [htl]; exact hlex) h
  have T := wpAnyT_of_headQ (D := D) (Q := Q) (g := l.toArray.size - n) hro hCD (fun listed a' w' hw' hL => by
    obtain ⟨hseq, hLq⟩ := hL
    obtain ⟨g, hg⟩ : ∃ g, l.toArray.size - n = g + 1 + 1 := ⟨l.toArray.size - n - 2, by simp; omega⟩
    rw [hg] at hseq ⊢
    simp only [Region.seqB, Bool.and_eq_true, decide_eq_true_eq] at hseq
    refine ⟨hCD w' hw', fun h1 => (by rw [hseq.1] at h1; cases h1), fun i hi => ?_⟩
    rw [hseq.1] at hi
    have hin : i = n := by simpa using hi
    subst hin
    have hona : l.toArray[i]? = some on := by simpa using hon
    unfold wpOpIn
    simp only [hona]
    have hwn : Region.wanted on (yielded l.toArray a'.tmps) = true := by simp [Region.wanted, hgn]
    rw [if_pos hwn]
    refine hLq w' hw' _ (fun a'' w'' hD hlist => ?_)
    have hdl : (l.drop (i + 1)).length = g + 1 := by simp at hg ⊢; omega
    have hany := wpAnyIn_of_seq' (md := .any) (Q' := Q) (l.drop (i + 1)) (i + 1) (listed.setIfInBounds i true) a'' w'' (fun j => by simp [List.getElem?_drop]) (by rw [hdl]; simp only [Region.seqB, Bool.and_eq_true, decide_eq_true_eq]; exact hseq.2) hlist
    rw [hdl] at hany
    split
    · exact hany
    · refine ⟨hD, hany.1, fun j hj => ?_⟩
      rw [hseq.2.1] at hj
      have hjn : j = i + 1 := by simpa using hj
      subst hjn
      simp only [hw0, if_true]
      exact hany.2 _ (by rw [hseq.2.1]; simp)) _ _ _ _ hC H
  rw [htl, show n - 1 + (l.toArray.size - n) = l.toArray.size - 1 by omega] at T
  have := late_first (md := .any) hro h0a (Region.noSelect_spec hsel) hQ (l.toArray.size - 1) _ a w (Region.free_spec h0a hf0) hr0' hy T
  rw [show l.toArray.size - 1 + 1 = l.toArray.size by omega] at this
  exact this
end
end Go.PM
namespace Go.PM
open Go.RowKit
theorem box_apart {w : World} {base : Nat} {e t : TypeId} {size n b : Nat} {v : Value} {cs : List Value} {c : Array Value} (h : w.ownsRow base e size v n cs) (hA : At w b t c) (hne : e ≠ t) : some b ≠ v.ownBlock := by
  rcases h.2 with ⟨rfl, _⟩ | ⟨g, cap, cur, rfl, _, hg, _⟩
  · simp [Value.ownBlock]
  · intro e'
    simp only [Value.ownBlock, Option.some.injEq] at e'
    subst e'
    unfold At at hA
    rw [hA] at hg
    cases hg
    exact hne rfl
theorem row_turn {w w' : World} {base : Nat} {e : TypeId} {size n : Nat} {v : Value} {cs : List Value} {row : Option Nat} (h : w.ownsRow base e size v n cs) (hg : w.grownBy w' row) (hr : ∀ r, row = some r → ∃ o : Obj, w.heap[r]? = some o ∧ o.isCells = false) : w'.ownsRow base e size v n cs := by
  refine h.kept hg ?_
  rcases h.2 with ⟨rfl, _⟩ | ⟨g, cap, cur, rfl, _, hh, _⟩
  · exact .inl rfl
  · refine .inr fun e' => ?_
    obtain ⟨o, ho, hc⟩ := hr g e'.symm
    rw [hh] at ho
    cases ho
    cases hc
theorem at_turn {w w' : World} {b : Nat} {t : TypeId} {c : Array Value} {row : Option Nat} (h : At w b t c) (hg : w.grownBy w' row) (hr : ∀ r, row = some r → ∃ o : Obj, w.heap[r]? = some o ∧ o.isCells = false) : At w' b t c := by
  refine h.grown hg fun e' => ?_
  obtain ⟨o, ho, hc⟩ := hr b e'.symm
  unfold At at h
  rw [h] at ho
  cases ho
  cases hc
theorem yieldsD_move {P : Program} {ops : Array Oper} {D : World → Prop} {o : Oper} {a : Act} (hgd : o.guard = none) (x : Operand) (ho : o.op = .move x) (v : Value) (hx : a.eval x = v) : YieldsD P ops D o v a := by
  subst hx
  refine ⟨by simp [Region.wanted, hgd], fun w _ => ?_, fun w => by simp [Oper.about, ho]⟩
  simp [execOp, ho]
theorem region_late_wide {P : Program} {m : Nat} {C D : World → Prop} {Q : Exit → Act → World → Prop} {id : Nat} {a : Act} {w : World} {l : List Oper} (n : Nat) (hm : P.follows .mixedOrders = true) (hB : lateB l.toArray n = true) (o0 on : Oper) (h0 : l[0]? = some o0) (hon : l[n]? = some on) (hgn : on.guard = none) (v0 : Value)
    (hQ : ∀ c a w, Q (.panic c) (a.put o0.dst v0) w → Q (.panic c) a w) (hy : YieldsD P l.toArray D o0 v0 a) (hCD : ∀ w, C w → D w) (hC : C w.drew)
    (h : wpQuietIn Fence.wide m P l.toArray C (fun a' => ∀ w', C w' → ∀ K : Act → World → Prop, (∀ a'' w'', D w'' → wpListIn Fence.wide m P l.toArray Q (l.drop (n + 1)) a'' w'' → K a'' w'') → Oper.wpIn Fence.wide m P on a' w' K Q) ((l.drop 1).take (n - 1)) (a.put o0.dst v0)) :
    (Code.region id l.toArray true).wp P Q a w :=
  wpIn_wide.1 (wpIn_region_any hm (any_late n rfl hB o0 on h0 hon hgn v0 hQ hy hCD hC h))
theorem yieldsD_load {P : Program} {ops : Array Oper} {o : Oper} {a : Act} (hgd : o.guard = none) (ty : TypeId) (x : Operand) (ho : o.op = .load ty x) (e : TypeId) (hu : P.underlying ty = some (.slice e)) (b : Nat) (hx : a.eval x = .pointer (some ⟨b, 0, none⟩)) (v : Value) :
    YieldsD P ops (fun w => w.cell? ⟨b, 0, none⟩ = some v) o v a := by
  refine ⟨by simp [Region.wanted, hgd], fun w hw => ?_, fun w => by simp [Oper.about, ho]⟩
  have hagg : (isAgg ty).run P w = .ok false w := by
    unfold isAgg
    rw [Sem.run_bind, run_underlying hu w]
    rfl
  simp [execOp, ho, hx, Instr.loadAt, Instr.sureAddr, loadVar, Sem.run_bind, hagg, run_load, hw]
theorem sliceIn {F : Fence} {n : Nat} {P : Program} {o : Oper} {a : Act} {w : World} {K : Act → World → Prop} {Q : Exit → Act → World → Prop} (t e : TypeId) (len : Nat) (parts : Array (Nat × Operand)) (ho : o.op = .buildSlice t len parts)
    (cells : Array Value) (ie : TypeInfo) (z : Value)
    (hu : P.underlying t = some (.slice e)) (hie : P.info? e = some ie) (hz : ie.zero = some z) (hsmall : ¬ len * ie.size > 2 ^ 24) (hpos : ¬ len * ie.size = 0)
    (hf : Instr.fill (fun i => some (i * ie.size, ie.size)) ((Array.range (len * ie.size)).map (z.cells[· % z.cells.size]!)) (parts.map fun (i, x) => (i, a.eval x)).toList = some cells)
    (h : K (a.put o.dst (.slice (some ⟨w.heap.size, 0, none⟩) len len)) (w.alloc (.cells cells e))) : o.wpIn F n P a w K Q := by
  unfold Oper.wpIn
  refine ⟨by simp [Oper.about, ho], ?_⟩
  rw [Oper.semAt_plain F _ _ (by rw [ho]; intro c hc'; cases hc')]
  unfold execOp
  simp only [ho, Sem.run_bind, run_buildSlice w t e len _ cells ie z hu hie hz hsmall hpos hf, Result.andThen_ok]
  exact h
end Go.PM
namespace Go.Proofs.YtfedloljhocpgaaGreatDoor
open Go.RowKit Go.PM
theorem sliceIn_mv {F : Fence} {n : Nat} {o : Oper} {a : Act} {w : World} {K : Act → World → Prop} {Q : Exit → Act → World → Prop} (x : Operand) (ho : o.op = .buildSlice 23 1 #[(0, x)]) (s t : ByteArray) (hx : a.eval x = .agg #[.string s, .string t])
    (h : K (a.put o.dst (.slice (some ⟨w.heap.size, 0, none⟩) 1 1)) (w.alloc (.cells #[.string s, .string t] 56))) : o.wpIn F n Tryz.prog a w K Q := by
  obtain ⟨i0, hi0, hz0, hz1, hz2⟩ := info_parts infoMv
  refine sliceIn 23 56 1 #[(0, x)] ho #[.string s, .string t] i0 _ Tryz.underlying23 hi0 hz0 (by rw [hz1]; decide) (by rw [hz1]; decide) ?_ h
  have hr : Array.range 2 = #[0, 1] := by decide
  simp [hx, hz1, Instr.fill, Value.cells, hr]
theorem listIn_mv {F : Fence} {k : Nat} {ops : Array Oper} {rest : List Oper} {o : Oper} {a : Act} {Q : Exit → Act → World → Prop} {w : World} (hgd : o.guard = none) (s x : Operand)
    (ho : o.op = .call { callee := .builtin .append, args := #[s, x], argTypes := #[23, 23] })
    (base : Nat) (v : Value) (ys : List Mv) (m : Mv) (ad : Addr) (c : Nat) (hs : a.eval s = v) (hx : a.eval x = .slice (some ad) 1 c)
    (hown : w.ownsRow base 56 2 v ys.length (mcells ys)) (hnew : ∀ j u, [Value.string m.1, Value.string m.2][j]? = some u → w.cell? (ad.add j) = some u)
    (hlen : ys.length ≤ 1048576) (hbase : base ≤ w.heap.size)
    (h : ∀ v' w', w'.ownsRow base 56 2 v' (ys ++ [m]).length (mcells (ys ++ [m])) → w.grownBy w' v.ownBlock → wpListIn F k Tryz.prog ops Q rest (a.put o.dst v') w') : wpListIn F k Tryz.prog ops Q (o :: rest) a w := by
  obtain ⟨i0, hi0, hz0, hz1, hz2⟩ := info_parts infoMv
  refine wpListIn_append_own w hgd s x _ ho base 56 i0 _ 2 32 Tryz.underlying23 hi0 hz0 hz1 hz2 rfl (by omega) v ys.length (mcells ys) hs hown ad 1 c [Value.string m.1, Value.string m.2] hx rfl hnew
    (by intro u hu; simp at hu; rcases hu with rfl | rfl <;> rfl) (by simp only [maxLen]; omega) (by omega) hbase ?_
  intro v' w' h2 h3 _
  refine h v' w' ?_ h3
  rw [mcells_append, List.length_append]
  simpa [mcells] using h2
end Go.Proofs.YtfedloljhocpgaaGreatDoor
namespace Go.PM
open Go.RowKit
theorem cutS_size (s : ByteArray) (c : UInt8) (i : Nat) : ∀ x ∈ (cutS s c i).1, x.size ≤ s.size := by
  induction i with
  | zero => intro x hx; cases hx
  | succ i ih =>
    rw [cutS]
    split
    · intro x hx
      rcases List.mem_append.1 hx with h | h
      · exact ih x h
      · have : x = s.extract (cutS s c i).2 i := by simpa using h
        subst this
        rw [ByteArray.size_extract]
        omega
    · exact ih
theorem cutP_size {s : ByteArray} {c : UInt8} {x : ByteArray} (h : x ∈ cutP s c) : x.size ≤ s.size := cutS_size s c _ x h
theorem cutP_len (s : ByteArray) (c : UInt8) : (cutP s c).length ≤ s.size + 1 := cutS_len s c _
def pOk (x : ByteArray) : Bool := match x.data.toList with
  | [_, e, _] => decide (e = 61)
  | _ => false
def pM (x : ByteArray) : Mv := (x.extract 0 1, x.extract 2 x.size)
theorem three_of_size {x : ByteArray} (h : x.size = 3) : ∃ a b c, x = ⟨#[a, b, c]⟩ := by
  obtain ⟨⟨l⟩⟩ := x
  match l, h with
  | [a, b, c], _ => exact ⟨a, b, c, rfl⟩
theorem pOk_size {x : ByteArray} (h : ¬ x.size = 3) : pOk x = false := by
  obtain ⟨⟨l⟩⟩ := x
  unfold pOk
  split
  · next e => simp at e; subst e; exact absurd rfl h
  · rfl
def prsL (t : ByteArray) : List Mv := (cutP t 44).map pM
def prsOk (t : ByteArray) : Bool := decide (t = ⟨#[45]⟩) || ((cutP t 44).all pOk && mvalid (prsL t))
def prsM (t : ByteArray) : List Mv := if t = ⟨#[45]⟩ then [] else if (cutP t 44).all pOk && mvalid (prsL t) then prsL t else []
theorem all_no {α : Type} {p : α → Bool} {l : List α} (k : Nat) (hk : k < l.length) (h : p l[k] = false) : l.all p = false := by
  cases hh : l.all p with
  | false => rfl
  | true => rw [List.all_eq_true] at hh; rw [hh _ (List.getElem_mem hk)] at h; cases h
theorem all_yes {α : Type} {p : α → Bool} {l : List α} (h : ∀ k (hk : k < l.length), p l[k] = true) : l.all p = true := by
  rw [List.all_eq_true]
  intro x hx
  obtain ⟨k, hk, rfl⟩ := List.getElem_of_mem hx
  exact h k hk
theorem rows_apart {w : World} {base base' : Nat} {e e' : TypeId} {size size' n n' : Nat} {v v' : Value} {cs cs' : List Value} (h : w.ownsRow base e size v n cs) (h' : w.ownsRow base' e' size' v' n' cs') (hne : e ≠ e') : v.ownBlock ≠ v'.ownBlock ∨ v'.ownBlock = none := by
  rcases h'.2 with ⟨rfl, _⟩ | ⟨g, cap, cur, rfl, _, hg, _⟩
  · exact .inr rfl
  · refine .inl fun e1 => ?_
    rcases h.2 with ⟨rfl, _⟩ | ⟨g2, cap2, cur2, rfl, _, hg2, _⟩
    · cases e1
    · cases e1
      rw [hg] at hg2
      cases hg2
      exact hne rfl
theorem Rd.one {w : World} {v : Value} {ys : List ByteArray} (h : Rd w 1 v ys.length (ys.map Value.string)) : ∃ A cap, v = .slice A ys.length cap ∧ ys.length ≤ 9223372036854775807 ∧ ys.length ≤ cap ∧
    ∀ k (hk : k < ys.length), ∃ b off, A = some ⟨b, off, none⟩ ∧ b < w.heap.size ∧ w.cell? ⟨b, off + k, none⟩ = some (.string ys[k]) := by
  obtain ⟨A, cap, e, hc, hn, hl, hr⟩ := h
  refine ⟨A, cap, e, hn, hc, fun k hk => ?_⟩
  obtain ⟨b, off, eA, hb, hcell⟩ := hr (by omega)
  exact ⟨b, off, eA, hb, hcell k _ (by simp [hk])⟩
end Go.PM
namespace Go.Proofs.YtfedloljhocpgaaGreatDoor
open Go.RowKit Go.PM

set_option maxRecDepth 100000 in
set_option maxHeartbeats 3200000 in
theorem spParseMoves_c (t : ByteArray) (w : World) (ht : t.size ≤ 1048576) :
    Calls Tryz.prog 178 #[.string t] w fun e w' => ∃ v', e = .returned (.tuple #[v', .bool (prsOk t)]) ∧ w'.ownsRow w.heap.size 56 2 v' (prsM t).length (mcells (prsM t)) ∧ Below w.heap.size w w' := by
  have hE := World.ownsRow_lit (e := 56) (base := w.heap.size) (size := 2) w #[] 0 (Nat.le_refl _) (Nat.zero_le _) rfl
  have hd45 : (t.toList == [45]) = decide (t = ⟨#[45]⟩) := by
    have e : (ByteArray.mk #[45]).toList = [45] := by rw [ByteArray.toList_eq]
    have h := beq_str t ⟨#[45]⟩
    rw [e] at h; exact h
  by_cases h0 : t = ⟨#[45]⟩
  · have HK : Hid (prsOk t = true) := by show _ = _; rw [prsOk, decide_eq_true h0]; rfl
    have HM : Hid (prsM t = []) := if_pos h0
    subst h0
    clear hd45
    go_enter Tryz.func178, Tryz.ntmps178
    go_wp2
    go_ret2
    exact ⟨_, by rw [HK.out]; rfl, by rw [HM.out]; exact hE, by (repeat' (first | (with_reducible exact Below.refl _ _) | (with_reducible assumption) | (with_reducible refine Below.alloc ?_ ?_ _) | (with_reducible refine Below.drew ?_) | (with_reducible refine Below.setCell ?_ ?_ _) | (with_reducible exact Nat.le_refl _) | omega | ((repeat (first | rewrite [World.size_alloc] | rewrite [World.size_setCell] | rewrite [World.size_drew])); omega) | (simp; omega) | (simp; done)))⟩
  · have HK : Hid (prsOk t = ((cutP t 44).all pOk && mvalid (prsL t))) := by show _ = _; rw [prsOk, decide_eq_false h0]; rfl
    have HM : Hid (prsM t = if (cutP t 44).all pOk && mvalid (prsL t) then prsL t else []) := if_neg h0
    have HL : Hid (prsL t = (cutP t 44).map pM) := rfl
    have hb0 : (t.toList == [45]) = false := by rw [hd45, decide_eq_false h0]
    have HZ : Hid (∀ x ∈ cutP t 44, x.size ≤ 1048576) := fun x hx => Nat.le_trans (cutP_size hx) ht
    have hln := cutP_len t 44
    have HLB : Hid ((cutP t 44).all pOk = true → (cutP t 44).length ≤ 1048576) := fun h => by
      have := cutP_three (s := t) (c := 44) (fun x hx => by
        rcases Nat.decEq x.size 3 with h3 | h3
        · have h4 := List.all_eq_true.1 h x hx
          rw [pOk_size h3] at h4; cases h4
        · exact h3)
      omega
    have HLN : Hid ((prsL t).length = (cutP t 44).length) := by show _ = _; simp [prsL]
    have HZM : Hid (∀ m ∈ prsL t, m.1.size ≤ 9223372036854775807 ∧ m.2.size ≤ 9223372036854775807) := fun m hm => by
      obtain ⟨x, hx, rfl⟩ := List.mem_map.1 hm
      have := HZ.out x hx
      simp only [pM, ByteArray.size_extract]
      omega
    have HC := Lib.hid (l13Cut_c t 44 (w.alloc (.cells #[] 56)) ht)
    clear h0 hd45
    generalize prsL t = ms at *
    generalize cutP t 44 = ys at *
    go_enter Tryz.func178, Tryz.ntmps178
    go_wp2_with fail
    refine HC.out.mono ?_
    rintro e w1 ⟨u, rfl, ho1, hb1⟩
    have bel1 : Below w.heap.size w w1 := ((Below.refl _ _).alloc (Nat.le_refl _) _).trans (hb1.mono (by simp))
    have hs1 := bel1.size
    have hE1 := own_keep hE hb1
    obtain ⟨A, cap, rfl, hn, hc, _⟩ := Rd.one (Rd.of_own ho1)
    clear HC hE hb1
    go_wp2
    go_loopw [4, 6, 14] (fun o _ i wr => ∃ (k : Nat), k ≤ ys.length ∧ i = .int .i64 k ∧ Hid (∀ j (hj : j < ys.length), j < k → pOk ys[j] = true) ∧ wr.ownsRow w.heap.size 56 2 o ((ys.take k).map pM).length (mcells ((ys.take k).map pM)) ∧ Below w.heap.size w wr ∧ wr.ownsRow (w.alloc (.cells #[] 56)).heap.size 9 1 (.slice A ys.length cap) ys.length (ys.map Value.string)) (fun _ _ i _ => ys.length - (intOf i).toNat)
    case atStart => exact ⟨0, by omega, rfl, fun j _ h => absurd h (Nat.not_lt_zero _), hE1, bel1, ho1⟩
    case round =>
      obtain ⟨k, hk, rfl, hp, ho, hb, hy⟩ := hrel
      have hbs := hb.size
      by_cases hlt : k < ys.length
      · obtain ⟨A', cap', e', _, _, hcell⟩ := Rd.one (Rd.of_own hy)
        obtain ⟨rfl, rfl⟩ : A = A' ∧ cap = cap' := by cases e'; exact ⟨rfl, rfl⟩
        clear e'
        obtain ⟨b, off, rfl, hbl, hd1⟩ := hcell k hlt
        have hsz := HZ.out ys[k] (List.getElem_mem hlt)
        have HNO : Hid (pOk ys[k] = false → ys.all pOk = false) := fun h => all_no k hlt h
        have HST : Hid ((ys.take (k + 1)).map pM = (ys.take k).map pM ++ [pM ys[k]]) := by show _ = _; rw [take_snoc ys k hlt, List.map_append]; rfl
        have HPP : Hid (pOk ys[k] = true → ∀ j (hj : j < ys.length), j < k + 1 → pOk ys[j] = true) := fun h j hj hjk => by
          rcases Nat.lt_succ_iff_lt_or_eq.1 hjk with h2 | h2
          · exact hp.out j hj h2
          · subst h2; exact h
        have hl2 : ((ys.take k).map pM).length ≤ k := by simp; omega
        clear hcell
        generalize ys[k] = x at *
        by_cases h3 : x.size = 3
        · obtain ⟨a, e, c, rfl⟩ := three_of_size h3
          have hx0 : (ByteArray.mk #[a, e, c]).extract 0 1 = ⟨#[a]⟩ := rfl
          have hx1 : (ByteArray.mk #[a, e, c]).extract 2 3 = ⟨#[c]⟩ := rfl
          by_cases h61 : e = 61
          · subst h61
            have q : (((ByteArray.mk #[a, 61, c])[1].toNat : Int) != 61) = false := rfl
            have HPM : Hid (pM ⟨#[a, 61, c]⟩ = (⟨#[a]⟩, ⟨#[c]⟩)) := rfl
            have HP2 := Lib.hid (HPP.out rfl)
            have hnw := two_new wr.drew (.string ⟨#[a]⟩) (.string ⟨#[c]⟩) 56
            have hsd : wr.drew.heap.size = wr.heap.size := rfl
            go_wp2
            refine region_late_wide (m := 0) (C := fun w' => w' = wr.drew) (D := fun _ => True) 6 (by kernel_rfl) (by kernel_rfl) _ _ (by rfl) (by rfl) (by rfl) u4 (by intro _ _ _ h; exact h) (yieldsD_move (by rfl) _ (by rfl) u4 (by rfl)) (fun _ _ => trivial) rfl ?_
            simp only [List.take_succ_cons, List.take_zero, List.drop_succ_cons, List.drop_zero, Nat.reduceSub, Nat.reduceAdd]
            simp only [Act.put, List.setIfInBounds_toArray, List.set_cons_succ, List.set_cons_zero]
            repeat (gi_big_quiet_step (fail))
            refine wpQuietIn_nil ?_
            intro w' hw' K hK
            subst hw'
            refine sliceIn_mv (.tmp 32) rfl ⟨#[a]⟩ ⟨#[c]⟩ (by rfl) ?_
            refine hK _ _ trivial ?_
            clear hK K
            simp only [Act.put, List.setIfInBounds_toArray, List.set_cons_succ, List.set_cons_zero]
            refine listIn_mv rfl (.tmp 27) (.tmp 33) rfl w.heap.size u4 ((ys.take k).map pM) (⟨#[a]⟩, ⟨#[c]⟩) ⟨wr.drew.heap.size, 0, none⟩ 1 (by rfl) (by rfl) (own_keep (show wr.drew.ownsRow w.heap.size 56 2 u4 ((ys.take k).map pM).length (mcells ((ys.take k).map pM)) from ho) ((Below.refl _ _).alloc (Nat.le_refl _) _)) hnw (by omega) (by simp; omega) ?_
            intro v' w3 hown3 hgrow3
            have hb3 := below_grown hgrow3 (B := w.heap.size) (by simp; omega) (own_block_ge ho)
            have hy3 := own_grown (own_keep (show wr.drew.ownsRow (w.alloc (.cells #[] 56)).heap.size 9 1 (.slice (some ⟨b, off, none⟩) ys.length cap) ys.length (ys.map Value.string) from hy) ((Below.refl _ _).alloc (Nat.le_refl _) _)) hgrow3 (rows_apart hy ho (by decide))
            have hbd : Below w.heap.size w wr.drew := hb.drew
            gi_wp2
            go_wp2
            go_roundw
            case rel => exact ⟨k + 1, by omega, by go_num, HP2.out, by rw [HST.out, HPM.out]; exact hown3, (hbd.alloc hbs _).trans hb3, hy3⟩
            case measure => simp [intOf] <;> omega
          · have q : (((ByteArray.mk #[a, e, c])[1].toNat : Int) != 61) = true := by
              show ((e.toNat : Int) != 61) = true
              simp only [bne_iff_ne]
              intro h
              have h6 : (61 : UInt8).toNat = 61 := rfl
              exact h61 (UInt8.toNat_inj.1 (by omega))
            have HD : Hid (ys.all pOk = false) := HNO.out (decide_eq_false h61)
            have hE3 := World.ownsRow_lit (e := 56) (base := w.heap.size) (size := 2) wr #[] 0 hbs (Nat.zero_le _) rfl
            go_wp2
            go_ret2
            exact ⟨_, by rw [HK.out, HD.out]; rfl, by rw [HM.out, HD.out]; exact hE3, hb.alloc hbs _⟩
        · have q : ¬ ((x.size : Int) = 3) := by omega
          have HD : Hid (ys.all pOk = false) := HNO.out (pOk_size h3)
          have hE3 := World.ownsRow_lit (e := 56) (base := w.heap.size) (size := 2) wr #[] 0 hbs (Nat.zero_le _) rfl
          go_wp2
          go_ret2
          exact ⟨_, by rw [HK.out, HD.out]; rfl, by rw [HM.out, HD.out]; exact hE3, hb.alloc hbs _⟩
      · have hkk : k = ys.length := by omega
        have HA : Hid (ys.all pOk = true) := all_yes fun j hj => hp.out j hj (by omega)
        rw [hkk, List.take_of_length_le (Nat.le_refl _), ← HL.out] at ho
        have HMV := Lib.hid (spMovesValid_c ms u4 wr (Rd.of_own ho) HZM.out (by have := HLN.out; have := HLB.out HA.out; omega))
        go_wp2_with fail
        refine HMV.out.mono ?_
        rintro e w3 ⟨rfl, hb3⟩
        rcases Bool.eq_false_or_eq_true (mvalid ms) with hv | hv
        · have HV := Lib.hid hv
          rw [hv]
          have ho3 := own_keep ho hb3
          clear hv
          go_wp2
          go_ret2
          exact ⟨_, by rw [HK.out, HA.out, HV.out]; rfl, by rw [HM.out, HA.out, HV.out]; exact ho3, hb.trans (hb3.mono hbs)⟩
        · have HV := Lib.hid hv
          rw [hv]
          have hE3 := World.ownsRow_lit (e := 56) (base := w.heap.size) (size := 2) w3 #[] 0 (Nat.le_trans hbs hb3.size) (Nat.zero_le _) rfl
          clear hv
          go_wp2
          go_ret2
          exact ⟨_, by rw [HK.out, HA.out, HV.out]; rfl, by rw [HM.out, HA.out, HV.out]; exact hE3, ((hb.trans (hb3.mono hbs)).alloc (Nat.le_trans hbs hb3.size) _)⟩
end Go.Proofs.YtfedloljhocpgaaGreatDoor
namespace Go.PM
open Go.RowKit
open Go.Lib (indexByte)
end Go.PM
namespace Go.PM
open Go.RowKit
/- a text is its pieces with the separator between them, and the pieces of such a text are these -/
theorem pcsL_of_join (c : UInt8) : ∀ ps : List (List UInt8), ps ≠ [] → (∀ p ∈ ps, c ∉ p) → pcsL c (Lib.join ps [c]) = ps
  | [], h, _ => absurd rfl h
  | [p], _, h => by
    rw [Lib.join_one]
    exact pcsL_none c p (h p (by simp))
  | p :: q :: r, _, h => by
    have ih := pcsL_of_join c (q :: r) (by simp) (fun x hx => h x (List.mem_cons_of_mem _ hx))
    have e : Lib.join (p :: q :: r) [c] = p ++ c :: Lib.join (q :: r) [c] := by
      rw [Lib.join_cons, Lib.join_cons]; simp [Lib.joinTail]
    rw [e, pcsL_some c _ _ (h p (by simp)), ih]
theorem isS_byte {s : ByteArray} (h : isS s = true) : ∃ c, s = ⟨#[c]⟩ ∧ c ≠ 44 ∧ c ≠ 61 ∧ c ≠ 45 := by
  obtain ⟨c, rfl⟩ := one_of_size (isS_size h)
  refine ⟨c, rfl, ?_, ?_, ?_⟩ <;>
  · rintro rfl
    revert h
    decide +kernel
theorem mok_part {m : Mv} (h : mok m = true) : ∃ a c, m = (⟨#[a]⟩, ⟨#[c]⟩) ∧ part m = [a, 61, c] ∧ a ≠ 44 ∧ c ≠ 44 := by
  unfold mok at h; rw [Bool.and_eq_true] at h
  obtain ⟨a, ha, a1, a2, a3⟩ := isS_byte (s := m.1) (by unfold isS; rw [h.1]; rfl)
  obtain ⟨c, hc, c1, c2, c3⟩ := isS_byte h.2
  exact ⟨a, c, Prod.ext ha hc, by unfold part; rw [ha, hc]; rfl, a1, c1⟩
theorem fmtL_pcs {xs : List Mv} (h : MV xs) (hne : xs ≠ []) : pcsL 44 (fmtL xs) = xs.map part := by
  unfold fmtL
  refine pcsL_of_join 44 _ (by simpa using hne) ?_
  intro p hp
  obtain ⟨m, hm, rfl⟩ := List.mem_map.1 hp
  obtain ⟨a, c, _, e, a1, c1⟩ := mok_part (h.1 m hm)
  rw [e]
  simp [Ne.symm a1, Ne.symm c1]
theorem fmt_cut {xs : List Mv} (h : MV xs) (hne : xs ≠ []) : cutP (fmtB xs) 44 = xs.map fun m => mkB (part m) := by
  rw [cutP_pcs, fmtB_some (by simpa [mvalid] using h) hne]
  unfold pcsB
  show (pcsL 44 (fmtL xs)).map mkB = _
  rw [fmtL_pcs h hne, List.map_map]
  rfl
theorem pM_part {m : Mv} (h : mok m = true) : pOk (mkB (part m)) = true ∧ pM (mkB (part m)) = m := by
  obtain ⟨a, c, rfl, e, _, _⟩ := mok_part h
  rw [e]
  exact ⟨rfl, rfl⟩
theorem fmt_prsL {xs : List Mv} (h : MV xs) (hne : xs ≠ []) : prsL (fmtB xs) = xs ∧ (cutP (fmtB xs) 44).all pOk = true := by
  unfold prsL
  rw [fmt_cut h hne]
  constructor
  · rw [List.map_map]
    conv => rhs; rw [← List.map_id xs]
    exact List.map_congr_left fun m hm => (pM_part (h.1 m hm)).2
  · rw [List.all_eq_true]
    intro x hx
    obtain ⟨m, hm, rfl⟩ := List.mem_map.1 hx
    exact (pM_part (h.1 m hm)).1
theorem fmt_dash {xs : List Mv} (h : MV xs) (hne : xs ≠ []) : ¬ fmtB xs = ⟨#[45]⟩ := by
  intro e
  have h2 := (fmt_prsL h hne).2
  rw [e] at h2
  revert h2
  decide +kernel
theorem prs_fmt (xs : List Mv) : prsOk (fmtB xs) = mvalid xs ∧ (mvalid xs = true → prsM (fmtB xs) = xs) := by
  cases hm : mvalid xs with
  | false =>
    rw [fmtB_no hm]
    exact ⟨by decide +kernel, fun h => by cases h⟩
  | true =>
    have h : MV xs := by simpa [mvalid] using hm
    by_cases hne : xs = []
    · subst hne
      exact ⟨by decide +kernel, fun _ => by decide +kernel⟩
    · obtain ⟨h1, h2⟩ := fmt_prsL h hne
      have h3 := fmt_dash h hne
      unfold prsOk prsM
      rw [h1, h2, hm, if_neg h3]
      simp
theorem fmtB_size {xs : List Mv} (hl : xs.length ≤ 65) (hz : ∀ m ∈ xs, m.1.size ≤ 64 ∧ m.2.size ≤ 64) : (fmtB xs).size ≤ 20000 := by
  have h2 : ∀ ys : List Mv, (∀ m ∈ ys, m.1.size ≤ 64 ∧ m.2.size ≤ 64) → msize ys ≤ 140 * ys.length := by
    intro ys hy
    induction ys with
    | nil => exact Nat.le_refl 0
    | cons y r ih =>
      have h1 := hy y (by simp)
      have h2 := ih (fun m hm => hy m (by simp [hm]))
      simp only [msize, List.length_cons]
      omega
  have h3 := h2 xs hz
  have h4 := fmtL_len xs
  unfold fmtB
  split
  · split
    · first | done | decide
    · show (fmtL xs).toArray.size ≤ _
      simp only [List.size_toArray]
      omega
  · decide
end Go.PM
namespace Go.PM
open Go.RowKit
/- a text of steps is its pieces, and the pieces of such a text are these -/
theorem svalid_mem {xs : List St} (h : svalid xs = true) : ∀ x ∈ xs, stOk x = true := by
  unfold svalid at h; rw [Bool.and_eq_true, List.all_eq_true] at h; exact h.2
theorem sfmtB_pos {xs : List St} (h : svalid xs = true) : 1 ≤ (sfmtB xs).size := by
  by_cases hne : xs = []
  · rw [sfmtB_none h hne]; exact Nat.le_refl 1
  · rw [sfmtB_some h hne]
    have := sfmtL_pos xs hne
    show 1 ≤ (sfmtL xs).toArray.size
    simp only [List.size_toArray]
    exact List.length_pos_iff.2 this
end Go.PM
namespace Go.PW

def orb (nx : Nat → Option Nat) (s : Nat) : Nat → Option Nat
  | 0 => some s
  | k + 1 => (orb nx s k).bind nx
def wayF (nx : Nat → Option Nat) : Nat → List Nat → Option Nat → List Nat
  | 0, acc, _ => acc
  | _ + 1, acc, none => acc
  | n + 1, acc, some i => if i ∈ acc then acc else wayF nx n (acc ++ [i]) (nx i)
def way (nx : Nat → Option Nat) (s : Nat) : List Nat := wayF nx 20 [] (some s)
structure Nice (nx : Nat → Option Nat) : Prop where
  lt : ∀ i j, nx i = some j → j < 19
  irr : ∀ i, nx i ≠ some i
  low : ∀ i j, nx i = some j → i < 9

variable {nx : Nat → Option Nat}
theorem nodup_le : ∀ (l : List Nat) (n : Nat), l.Nodup → (∀ a ∈ l, a < n) → l.length ≤ n := by
  intro l n h1 h2
  have := Go.PM.nodup_le l (List.range n) h1 (fun a ha => List.mem_range.2 (h2 a ha))
  simpa using this

structure Acc (nx : Nat → Option Nat) (s : Nat) (acc : List Nat) : Prop where
  at_ : ∀ j, j < acc.length → acc[j]? = orb nx s j
  nodup : acc.Nodup
  lt : ∀ a ∈ acc, a < 19
theorem Acc.nil (s : Nat) : Acc nx s [] := ⟨fun j h => by simp at h, List.nodup_nil, fun a h => by simp at h⟩
theorem orb_lt (hn : Nice nx) {s : Nat} (hs : s < 19) : ∀ k i, orb nx s k = some i → i < 19 := by
  intro k i h
  cases k with
  | zero => simp only [orb, Option.some.injEq] at h; omega
  | succ k =>
    simp only [orb, Option.bind_eq_some_iff] at h
    obtain ⟨j, _, h⟩ := h
    exact hn.lt j i h
theorem Acc.snoc (hn : Nice nx) {s : Nat} (hs : s < 19) {acc : List Nat} (h : Acc nx s acc) {i : Nat} (hi : orb nx s acc.length = some i) (hm : i ∉ acc) : Acc nx s (acc ++ [i]) := by
  refine ⟨fun j hj => ?_, ?_, fun a ha => ?_⟩
  · rcases Nat.lt_or_ge j acc.length with h1 | h1
    · rw [List.getElem?_append_left h1]; exact h.at_ j h1
    · have : j = acc.length := by simp at hj; omega
      subst this
      rw [List.getElem?_append_right (by omega)]; simp [hi]
  · rw [List.nodup_append]
    exact ⟨h.nodup, by simp, fun a ha b hb e => by simp at hb; subst hb; subst e; exact hm ha⟩
  · rw [List.mem_append] at ha
    rcases ha with ha | ha
    · exact h.lt a ha
    · simp at ha; subst ha; exact orb_lt hn hs _ _ hi
theorem Acc.len {s : Nat} {acc : List Nat} (h : Acc nx s acc) : acc.length ≤ 19 := nodup_le acc 19 h.nodup h.lt

structure Rho (nx : Nat → Option Nat) (s : Nat) (w : List Nat) : Prop extends Acc nx s w where
  pos : 0 < w.length
  last : orb nx s w.length = none ∨ ∃ mu, mu < w.length ∧ orb nx s w.length = orb nx s mu
theorem wayF_rho (hn : Nice nx) {s : Nat} (hs : s < 19) : ∀ (n : Nat) (acc : List Nat), Acc nx s acc → acc.length + n = 20 → Rho nx s (wayF nx n acc (orb nx s acc.length)) := by
  intro n
  induction n with
  | zero => intro acc h hl; have := h.len; omega
  | succ n ih =>
    intro acc h hl
    cases hc : orb nx s acc.length with
    | none =>
      show Rho nx s acc
      have : acc.length ≠ 0 := by intro h0; rw [h0] at hc; simp [orb] at hc
      exact ⟨h, by omega, .inl hc⟩
    | some i =>
      show Rho nx s (if i ∈ acc then acc else wayF nx n (acc ++ [i]) (nx i))
      by_cases hm : i ∈ acc
      · rw [if_pos hm]
        obtain ⟨mu, hmu⟩ := List.getElem?_of_mem hm
        have hlt := (List.getElem?_eq_some_iff.1 hmu).1
        exact ⟨h, by omega, .inr ⟨mu, hlt, by rw [hc, ← h.at_ mu hlt, hmu]⟩⟩
      · rw [if_neg hm]
        have := ih (acc ++ [i]) (h.snoc hn hs hc hm) (by simp; omega)
        rw [show (acc ++ [i]).length = acc.length + 1 by simp] at this
        simpa only [orb, hc, Option.bind_some] using this
theorem way_rho (hn : Nice nx) {s : Nat} (hs : s < 19) : Rho nx s (way nx s) := wayF_rho hn hs 20 [] (Acc.nil s) rfl
theorem wayF_step {n : Nat} {acc : List Nat} {i : Nat} (hm : i ∉ acc) : wayF nx (n + 1) acc (some i) = wayF nx n (acc ++ [i]) (nx i) := by
  show (if i ∈ acc then acc else _) = _; rw [if_neg hm]
theorem wayF_hit {n : Nat} {acc : List Nat} {i : Nat} (hm : i ∈ acc) : wayF nx n acc (some i) = acc := by
  cases n with
  | zero => rfl
  | succ n => show (if i ∈ acc then acc else _) = _; rw [if_pos hm]
theorem wayF_none {n : Nat} {acc : List Nat} : wayF nx n acc none = acc := by cases n <;> rfl

theorem orb_add (s : Nat) (a b : Nat) : orb nx s (a + b) = (orb nx s a).bind fun i => orb nx i b := by
  induction b with
  | zero => simp only [Nat.add_zero, orb]; cases orb nx s a <;> rfl
  | succ b ih =>
    rw [← Nat.add_assoc]; simp only [orb]; rw [ih]
    cases orb nx s a <;> rfl
theorem orb_shift {s a b : Nat} (h : orb nx s a = orb nx s b) (k : Nat) : orb nx s (a + k) = orb nx s (b + k) := by
  rw [orb_add, orb_add, h]
theorem orb_none {s a : Nat} (h : orb nx s a = none) (k : Nat) : orb nx s (a + k) = none := by rw [orb_add, h]; rfl
theorem orb_none_ge {s a b : Nat} (h : orb nx s a = none) (hb : a ≤ b) : orb nx s b = none := by
  have := orb_none h (b - a); rwa [show a + (b - a) = b by omega] at this
section
variable {s : Nat} {w : List Nat}
theorem Rho.some_ (h : Rho nx s w) {j : Nat} (hj : j < w.length) : orb nx s j = some w[j] := by rw [← h.at_ j hj, List.getElem?_eq_getElem hj]
theorem Rho.inj (h : Rho nx s w) {i j : Nat} (hi : i < w.length) (hj : j < w.length) (e : orb nx s i = orb nx s j) : i = j := by
  rw [h.some_ hi, h.some_ hj] at e
  exact (List.getElem_inj h.nodup).1 (Option.some.inj e)
theorem Rho.unique (h : Rho nx s w) {v : List Nat} (k : Rho nx s v) : w = v := by
  have key : ∀ {w v : List Nat}, Rho nx s w → Rho nx s v → ¬ w.length < v.length := by
    intro w v h k hlt
    rcases h.last with h1 | ⟨mu, hmu, h1⟩
    · rw [k.some_ hlt] at h1; cases h1
    · have := k.inj hlt (by omega) h1; omega
  have hl : w.length = v.length := by have := key h k; have := key k h; omega
  apply List.ext_getElem?
  intro j
  rcases Nat.lt_or_ge j w.length with h1 | h1
  · rw [h.at_ j h1, k.at_ j (by omega)]
  · rw [List.getElem?_eq_none h1, List.getElem?_eq_none (by omega)]
theorem Rho.fold (h : Rho nx s w) {mu : Nat} (hmu : mu < w.length) (e : orb nx s w.length = orb nx s mu) : ∀ k, ∃ p, p < w.length ∧ orb nx s k = orb nx s p ∧ (k < w.length → p = k) ∧ (mu ≤ k → mu ≤ p) := by
  intro k
  induction k with
  | zero => exact ⟨0, h.pos, rfl, fun _ => rfl, fun h => h⟩
  | succ k ih =>
    obtain ⟨p, h1, h2, h3, h4⟩ := ih
    by_cases hl : p + 1 < w.length
    · refine ⟨p + 1, hl, by simp only [orb]; rw [h2], fun hk => by rw [h3 (by omega)], fun hk => ?_⟩
      by_cases hkm : mu ≤ k
      · have := h4 hkm; omega
      · have := h3 (by omega); omega
    · refine ⟨mu, hmu, ?_, fun hk => ?_, fun _ => Nat.le_refl _⟩
      · have : p + 1 = w.length := by omega
        rw [← e, ← this]; simp only [orb]; rw [h2]
      · have := h3 (by omega); omega
theorem Rho.later (h : Rho nx s w) {mu : Nat} (hmu : mu < w.length) (e : orb nx s w.length = orb nx s mu) {j k : Nat} (hj : j < mu) (hk : mu ≤ k) : orb nx s j ≠ orb nx s k := by
  obtain ⟨p, h1, h2, _, h4⟩ := h.fold hmu e k
  intro e2
  rw [h2] at e2
  have := h.inj (by omega) h1 e2
  have := h4 hk; omega

def OnR (nx : Nat → Option Nat) (s : Nat) : Prop := ∃ k, 0 < k ∧ orb nx s k = some s
theorem Rho.onR (h : Rho nx s w) : OnR nx s ↔ orb nx s w.length = some s := by
  constructor
  · rintro ⟨k, hk, e⟩
    rcases h.last with h1 | ⟨mu, hmu, h1⟩
    · rcases Nat.lt_or_ge k w.length with h2 | h2
      · have := h.inj h2 h.pos (by rw [e]; rfl); omega
      · rw [orb_none_ge h1 h2] at e; cases e
    · rcases Nat.eq_zero_or_pos mu with h0 | h0
      · subst h0; rw [h1]; rfl
      · exfalso
        rcases Nat.lt_or_ge k w.length with h2 | h2
        · have := h.inj h2 h.pos (by rw [e]; rfl); omega
        · exact h.later hmu h1 h0 (show mu ≤ k by omega) (by rw [e]; rfl)
  · intro e; exact ⟨_, h.pos, e⟩
theorem Rho.ring_at (h : Rho nx s w) {mu : Nat} (hmu : mu < w.length) (e : orb nx s w.length = orb nx s mu) {j i : Nat} (hi : orb nx s j = some i) : OnR nx i ↔ mu ≤ j := by
  constructor
  · rintro ⟨k, hk, e2⟩
    rcases Nat.lt_or_ge j mu with h1 | h1
    · exfalso
      -- i comes again and again, so also behind mu
      have h2 : ∀ t, orb nx s (j + k * t) = some i := by
        intro t
        induction t with
        | zero => simpa using hi
        | succ t ih => rw [Nat.mul_succ, ← Nat.add_assoc, orb_add, ih]; exact e2
      have h3 := h2 mu
      have h4 : mu ≤ j + k * mu := by have := Nat.le_mul_of_pos_left mu hk; omega
      exact h.later hmu e h1 h4 (by rw [hi, h3])
    · exact h1
  · intro hj
    obtain ⟨p, h1, h2, _, h4⟩ := h.fold hmu e j
    have hp := h4 hj
    refine ⟨w.length - mu, by omega, ?_⟩
    have h5 := orb_shift (nx := nx) (s := s) e (p - mu)
    rw [show mu + (p - mu) = p by omega, ← h2, hi, show w.length + (p - mu) = p + (w.length - mu) by omega, orb_add, ← h2, hi] at h5
    exact h5
theorem Rho.no_ring (_h : Rho nx s w) (e : orb nx s w.length = none) {j i : Nat} (hi : orb nx s j = some i) : ¬ OnR nx i := by
  rintro ⟨k, hk, e2⟩
  have h2 : ∀ t, orb nx s (j + k * t) = some i := by
    intro t
    induction t with
    | zero => simpa using hi
    | succ t ih => rw [Nat.mul_succ, ← Nat.add_assoc, orb_add, ih]; exact e2
  have h3 := h2 w.length
  have h4 : w.length ≤ j + k * w.length := by have := Nat.le_mul_of_pos_left w.length hk; omega
  rw [orb_none_ge e h4] at h3; cases h3
end
end Go.PW
namespace Go.PW
variable {nx : Nat → Option Nat} {s : Nat} {w : List Nat}
structure Stops (nx : Nat → Option Nat) (s D : Nat) : Prop where
  lt : D ≤ 19
  before : ∀ j, j < D → ∃ i t, orb nx s j = some i ∧ nx i = some t ∧ ¬ OnR nx i
  at_ : ∃ i, orb nx s D = some i ∧ (nx i = none ∨ OnR nx i)
theorem Rho.step (h : Rho nx s w) {j : Nat} (hj : j + 1 < w.length) : ∃ i t, orb nx s j = some i ∧ nx i = some t ∧ orb nx s (j + 1) = some t := by
  have h1 := h.some_ (j := j) (by omega)
  have h2 := h.some_ hj
  refine ⟨_, _, h1, ?_, h2⟩
  have : orb nx s (j + 1) = (orb nx s j).bind nx := rfl
  rw [h1, h2] at this
  exact this.symm
theorem Rho.stops (h : Rho nx s w) : ∃ D, Stops nx s D ∧ ((orb nx s w.length = none ∧ D + 1 = w.length) ∨ (D < w.length ∧ orb nx s w.length = orb nx s D)) := by
  have hl := h.len
  have hp := h.pos
  rcases h.last with h1 | ⟨mu, hmu, h1⟩
  · refine ⟨w.length - 1, ⟨by omega, fun j hj => ?_, ?_⟩, .inl ⟨h1, by omega⟩⟩
    · obtain ⟨i, t, e1, e2, e3⟩ := h.step (j := j) (by omega)
      exact ⟨i, t, e1, e2, h.no_ring h1 e1⟩
    · refine ⟨_, h.some_ (j := w.length - 1) (by omega), .inl ?_⟩
      have h2 := h.some_ (j := w.length - 1) (by omega)
      have : orb nx s (w.length - 1 + 1) = (orb nx s (w.length - 1)).bind nx := rfl
      rw [show w.length - 1 + 1 = w.length by omega, h1, h2] at this
      exact this.symm
  · refine ⟨mu, ⟨by omega, fun j hj => ?_, ?_⟩, .inr ⟨hmu, h1⟩⟩
    · obtain ⟨i, t, e1, e2, e3⟩ := h.step (j := j) (by omega)
      exact ⟨i, t, e1, e2, fun hr => by have := (h.ring_at hmu h1 e1).1 hr; omega⟩
    · exact ⟨_, h.some_ hmu, .inr ((h.ring_at hmu h1 (h.some_ hmu)).2 (Nat.le_refl _))⟩
theorem Stops.unique {D E : Nat} (h : Stops nx s D) (k : Stops nx s E) : D = E := by
  have key : ∀ {D E : Nat}, Stops nx s D → Stops nx s E → ¬ D < E := by
    intro D E h k hlt
    obtain ⟨i, e1, e2⟩ := h.at_
    obtain ⟨i', t, e3, e4, e5⟩ := k.before D hlt
    rw [e1] at e3; cases e3
    rcases e2 with e2 | e2
    · rw [e4] at e2; cases e2
    · exact e5 e2
  have := key h k; have := key k h; omega

theorem Rho.meets (h : Rho nx s w) : ∃ k, 1 ≤ k ∧ k ≤ 19 ∧ orb nx s k = orb nx s (2 * k) := by
  have hl := h.len
  rcases h.last with h1 | ⟨mu, hmu, h1⟩
  · exact ⟨19, by omega, by omega, by rw [orb_none_ge h1 (by omega), orb_none_ge h1 (by omega)]⟩
  · obtain ⟨lam, hlam⟩ : ∃ lam, lam = w.length - mu := ⟨_, rfl⟩
    have per : ∀ t x, mu ≤ x → orb nx s (x + lam * t) = orb nx s x := by
      intro t x hx
      induction t with
      | zero => rfl
      | succ t ih =>
        rw [Nat.mul_succ, ← Nat.add_assoc, ← ih]
        have := orb_shift (nx := nx) (s := s) h1 (x + lam * t - mu)
        rw [show w.length + (x + lam * t - mu) = x + lam * t + lam by omega, show mu + (x + lam * t - mu) = x + lam * t by omega] at this
        exact this
    have hd := Nat.div_add_mod mu lam
    have hm := Nat.mod_lt mu (show 0 < lam by omega)
    refine ⟨lam * (mu / lam + 1), ?_, ?_, ?_⟩
    · rw [Nat.mul_add]; omega
    · rw [Nat.mul_add]; omega
    · rw [Nat.two_mul, per _ _ (by rw [Nat.mul_add]; omega)]
def Meet (nx : Nat → Option Nat) (s : Nat) (m : Option Nat) : Prop := (m = none ∧ ∃ k, orb nx s k = none) ∨ ∃ k, 0 < k ∧ m = orb nx s k ∧ orb nx s k = orb nx s (2 * k)
def Ent (nx : Nat → Option Nat) (s : Nat) (e : Option Nat) : Prop := ∃ D, Stops nx s D ∧ ((e = none ∧ ∃ k, orb nx s k = none) ∨ (e = orb nx s D ∧ ∀ k, orb nx s k ≠ none))
theorem Rho.ends (h : Rho nx s w) {k : Nat} (hk : orb nx s k = none) : orb nx s w.length = none := by
  rcases h.last with h1 | ⟨mu, hmu, h1⟩
  · exact h1
  · obtain ⟨p, h2, h3, _⟩ := h.fold hmu h1 k
    rw [h3, h.some_ h2] at hk; cases hk
theorem Rho.second (h : Rho nx s w) {m : Option Nat} (hm : Meet nx s m) : (m = none ∧ ∃ k, orb nx s k = none) ∨ ∃ k D, Stops nx s D ∧ m = orb nx s k ∧ (∀ j, j < D → orb nx s j ≠ orb nx s (k + j)) ∧ orb nx s D = orb nx s (k + D) ∧ ∀ i, orb nx s i ≠ none := by
  rcases hm with hm | ⟨k, hk, rfl, e⟩
  · exact .inl hm
  · by_cases h0 : orb nx s k = none
    · exact .inl ⟨h0, _, h0⟩
    · right
      obtain ⟨D, hD, hc⟩ := h.stops
      rcases hc with ⟨h1, h2⟩ | ⟨h1, h2⟩
      · exfalso
        have hk1 : k < w.length := Nat.lt_of_not_ge fun hge => h0 (orb_none_ge h1 hge)
        have hk2 : 2 * k < w.length := Nat.lt_of_not_ge fun hge => h0 (by rw [e]; exact orb_none_ge h1 hge)
        have := h.inj hk1 hk2 e; omega
      · have hkD : D ≤ k := by
          rcases Nat.lt_or_ge k D with hlt | hge
          · exfalso
            by_cases h3 : 2 * k < w.length
            · have := h.inj (by omega) h3 e; omega
            · exact h.later h1 h2 hlt (show D ≤ 2 * k by omega) e
          · exact hge
        refine ⟨k, D, hD, rfl, fun j hj => h.later h1 h2 hj (by omega), ?_, fun i hi => ?_⟩
        · -- some m with orb (k + m) = orb D
          obtain ⟨lam, hlam⟩ : ∃ lam, lam = w.length - D := ⟨_, rfl⟩
          have per : ∀ t x, D ≤ x → orb nx s (x + lam * t) = orb nx s x := by
            intro t x hx
            induction t with
            | zero => rfl
            | succ t ih =>
              rw [Nat.mul_succ, ← Nat.add_assoc, ← ih]
              have := orb_shift (nx := nx) (s := s) h2 (x + lam * t - D)
              rw [show w.length + (x + lam * t - D) = x + lam * t + lam by omega, show D + (x + lam * t - D) = x + lam * t by omega] at this
              exact this
          -- D + lam * k ≥ k, reached from k by m steps
          have hlk : k ≤ lam * k := Nat.le_mul_of_pos_left k (by omega)
          have e1 := per k D (Nat.le_refl _)
          have e2 := orb_shift (nx := nx) (s := s) e (D + lam * k - k)
          rw [show k + (D + lam * k - k) = D + lam * k by omega, show 2 * k + (D + lam * k - k) = k + D + lam * k by omega, e1, per k (k + D) (by omega)] at e2
          exact e2
        · have := h.ends hi
          rw [h2, h.some_ h1] at this; cases this
theorem Ent.onR (h : Rho nx s w) {e : Option Nat} (he : Ent nx s e) : e = some s ↔ OnR nx s := by
  obtain ⟨D, hD, hc⟩ := he
  rcases hc with ⟨rfl, k, hk⟩ | ⟨rfl, hall⟩
  · constructor
    · intro h; cases h
    · intro hr; exact absurd hr (h.no_ring (h.ends hk) (j := 0) rfl)
  · obtain ⟨E, hE, hc⟩ := h.stops
    rcases hc with ⟨h1, _⟩ | ⟨h1, h2⟩
    · exact absurd h1 (hall _)
    · have := hD.unique hE
      subst this
      rw [h.ring_at h1 h2 (j := 0) (i := s) rfl]
      constructor
      · intro e
        have := h.inj h1 h.pos (by rw [e]; rfl)
        omega
      · intro h0
        have : D = 0 := by omega
        subst this; rfl
theorem Ent.before (h : Rho nx s w) {e : Option Nat} (he : Ent nx s e) {D : Nat} (hD : Stops nx s D) : (∀ j, j < D → orb nx s j ≠ e) ∧ (orb nx s D = e ∨ ∃ i, orb nx s D = some i ∧ nx i = none) := by
  obtain ⟨E, hE, hc⟩ := he
  have := hD.unique hE
  subst this
  rcases hc with ⟨rfl, k, hk⟩ | ⟨rfl, hall⟩
  · refine ⟨fun j hj => ?_, ?_⟩
    · obtain ⟨i, t, e1, _⟩ := hD.before j hj
      rw [e1]; intro h; cases h
    · obtain ⟨i, e1, e2⟩ := hD.at_
      exact .inr ⟨i, e1, e2.resolve_right (h.no_ring (h.ends hk) e1)⟩
  · refine ⟨fun j hj e => ?_, .inl rfl⟩
    obtain ⟨i, t, e1, _, e3⟩ := hD.before j hj
    obtain ⟨i', e4, e5⟩ := hD.at_
    rw [e1, e4] at e; cases e
    rcases e5 with e5 | e5
    · exact hall (D + 1) (by simp only [orb]; rw [e4]; exact e5)
    · exact e3 e5
end Go.PW
namespace Go.PW
open Go.PM Go.RowKit Go.Lib

def spotsL : List UInt8 := [97, 98, 99, 100, 101, 102, 65, 66, 67, 48, 49, 50, 51, 52, 53, 54, 55, 56, 57]
def ch (i : Nat) : UInt8 := spotsL.getD i 0
def sn (i : Nat) : ByteArray := ⟨#[ch i]⟩
def sidx (s : ByteArray) : Nat := (indexByte spotsL (s.data.toList.headD 0)).toNat
def txt (l : List Nat) : ByteArray := ⟨(l.map ch).toArray⟩
theorem sn_nm (i : Nat) (h : i < 9) : sn i = nm i := by
  match i, h with
  | 0, _ | 1, _ | 2, _ | 3, _ | 4, _ | 5, _ | 6, _ | 7, _ | 8, _ => rfl
theorem ch_all : ∀ i, i < 19 → (indexByte spotsL (ch i)) = (i : Nat) ∧ isS (sn i) = true ∧ isP (sn i) = decide (i < 9) ∧ isD (sn i) = decide (9 ≤ i) := by
  intro i h
  rcases (show i = 0 ∨ i = 1 ∨ i = 2 ∨ i = 3 ∨ i = 4 ∨ i = 5 ∨ i = 6 ∨ i = 7 ∨ i = 8 ∨ i = 9 ∨ i = 10 ∨ i = 11 ∨ i = 12 ∨ i = 13 ∨ i = 14 ∨ i = 15 ∨ i = 16 ∨ i = 17 ∨ i = 18 by omega) with rfl | rfl | rfl | rfl | rfl | rfl | rfl | rfl | rfl | rfl | rfl | rfl | rfl | rfl | rfl | rfl | rfl | rfl | rfl <;> decide +kernel
theorem ch_inj {i j : Nat} (hi : i < 19) (hj : j < 19) (e : ch i = ch j) : i = j := by
  have h1 := (ch_all i hi).1
  have h2 := (ch_all j hj).1
  rw [e, h2] at h1; omega
theorem sn_inj {i j : Nat} (hi : i < 19) (hj : j < 19) (e : sn i = sn j) : i = j := by
  refine ch_inj hi hj ?_
  have := congrArg (fun s => s.data.toList.headD 0) e
  simpa [sn] using this
theorem sidx_sn {i : Nat} (hi : i < 19) : sidx (sn i) = i := by
  have := (ch_all i hi).1
  unfold sidx sn
  show (indexByte spotsL (ch i)).toNat = i
  rw [this]; rfl
theorem sidx_one (c : UInt8) (h : isS ⟨#[c]⟩ = true) : sidx ⟨#[c]⟩ < 19 ∧ sn (sidx ⟨#[c]⟩) = ⟨#[c]⟩ := by
  have hm : c ∈ spotsL := by
    unfold isS at h
    rw [Bool.or_eq_true] at h
    rcases h with h | h
    · have : c ∈ placesL := by simpa [isP] using h
      simp only [placesL, List.mem_cons, List.not_mem_nil, or_false] at this
      simp only [spotsL, List.mem_cons, List.not_mem_nil, or_false]
      rcases this with h | h | h | h | h | h | h | h | h <;> simp [h]
    · have : 48 ≤ c.toNat ∧ c.toNat ≤ 57 := by simpa [isD] using h
      obtain ⟨n, hn⟩ : ∃ n, c.toNat = n := ⟨_, rfl⟩
      have hc : c = UInt8.ofNat n := by rw [← hn]; simp
      subst hc
      rw [hn] at this
      have : n = 48 ∨ n = 49 ∨ n = 50 ∨ n = 51 ∨ n = 52 ∨ n = 53 ∨ n = 54 ∨ n = 55 ∨ n = 56 ∨ n = 57 := by omega
      rcases this with rfl | rfl | rfl | rfl | rfl | rfl | rfl | rfl | rfl | rfl <;> decide
  simp only [spotsL, List.mem_cons, List.not_mem_nil, or_false] at hm
  rcases hm with rfl | rfl | rfl | rfl | rfl | rfl | rfl | rfl | rfl | rfl | rfl | rfl | rfl | rfl | rfl | rfl | rfl | rfl | rfl <;> decide +kernel
theorem sidx_spec {s : ByteArray} (h : isS s = true) : sidx s < 19 ∧ sn (sidx s) = s := by
  obtain ⟨c, rfl⟩ := one_of_size (isS_size h)
  exact sidx_one c h
theorem sidx_pidx {s : ByteArray} (h : isP s = true) : sidx s = pidx s := by
  have h1 := pidx_spec h
  have h2 : isS s = true := by unfold isS; rw [h]; rfl
  have h3 := sidx_spec h2
  refine sn_inj h3.1 (by omega) ?_
  rw [h3.2, sn_nm _ h1.1, h1.2]
theorem isP_sidx {s : ByteArray} (h : isS s = true) : isP s = decide (sidx s < 9) := by
  have h1 := sidx_spec h
  have h2 := (ch_all _ h1.1).2.2.1
  rwa [h1.2] at h2
def strLen : Value → Nat
  | .string t => t.size
  | _ => 0
theorem txt_append (l m : List Nat) : txt (l ++ m) = txt l ++ txt m := by
  apply ByteArray.ext
  rw [ByteArray.data_append]
  simp [txt]
theorem txt_snoc (l : List Nat) (i : Nat) : txt (l ++ [i]) = txt l ++ sn i := txt_append l [i]
theorem txt_size (l : List Nat) : (txt l).size = l.length := by simp [txt, ByteArray.size]
theorem txt_list (l : List Nat) : (txt l).data.toList = l.map ch := by simp [txt]
theorem txt_mem {l : List Nat} (hl : ∀ a ∈ l, a < 19) {i : Nat} (hi : i < 19) : ch i ∈ (txt l).data.toList ↔ i ∈ l := by
  rw [txt_list, List.mem_map]
  constructor
  · rintro ⟨j, hj, e⟩
    have := ch_inj (hl j hj) hi e
    exact this ▸ hj
  · intro h; exact ⟨i, h, rfl⟩
def SV (f : Nat → ByteArray) : Prop := ∀ p, p < 9 → isS (srcT f p) = true
theorem SV_tab {xs : List Mv} (h : MV xs) : SV (tabOf xs) := by
  intro p hp
  rw [srcM_nm h hp]
  unfold srcM
  cases hf : xs.find? (fun m => decide (m.1 = nm p)) with
  | none => show isS (nm p) = true; unfold isS; rw [isP_nm hp]; rfl
  | some m =>
    have := h.1 m (List.mem_of_find?_eq_some hf)
    unfold mok at this; rw [Bool.and_eq_true] at this
    exact this.2
def sx (f : Nat → ByteArray) (p : Nat) : Nat := sidx (srcT f p)
def nxT (f : Nat → ByteArray) (i : Nat) : Option Nat := if i < 9 then (if sx f i = i then none else some (sx f i)) else none
theorem sx_lt {f : Nat → ByteArray} (h : SV f) {p : Nat} (hp : p < 9) : sx f p < 19 ∧ sn (sx f p) = srcT f p := sidx_spec (h p hp)
theorem nice {f : Nat → ByteArray} (h : SV f) : Nice (nxT f) := by
  refine ⟨fun i j e => ?_, fun i e => ?_, fun i j e => ?_⟩
  all_goals
    unfold nxT at e
    by_cases h9 : i < 9
    · rw [if_pos h9] at e
      by_cases h1 : sx f i = i
      · rw [if_pos h1] at e; cases e
      · rw [if_neg h1, Option.some.injEq] at e
        first | exact h9 | exact absurd e h1 | exact e ▸ (sx_lt h h9).1
    · rw [if_neg h9] at e; cases e
theorem nxT_some {f : Nat → ByteArray} {i : Nat} (hi : i < 9) (h : sx f i ≠ i) : nxT f i = some (sx f i) := by
  unfold nxT; rw [if_pos hi, if_neg h]
theorem nxT_stay {f : Nat → ByteArray} {i : Nat} (hi : i < 9) (h : sx f i = i) : nxT f i = none := by
  unfold nxT; rw [if_pos hi, if_pos h]
theorem nxT_digit {f : Nat → ByteArray} {i : Nat} (hi : ¬ i < 9) : nxT f i = none := by
  unfold nxT; rw [if_neg hi]
theorem src_self {f : Nat → ByteArray} (h : SV f) {i : Nat} (hi : i < 9) : srcT f i = nm i ↔ sx f i = i := by
  have h1 := sx_lt h hi
  rw [← h1.2, ← sn_nm i hi]
  exact ⟨fun e => sn_inj h1.1 (by omega) e, fun e => by rw [e]⟩
end Go.PW
namespace Go.PW
open Go.PM
variable {nx : Nat → Option Nat}
theorem least_ex {P : Nat → Prop} : ∀ n, P n → ∃ m, P m ∧ ∀ k, P k → m ≤ k := by
  intro n
  induction n using Nat.strongRecOn with
  | ind n ih =>
    intro h
    by_cases h2 : ∃ m, m < n ∧ P m
    · obtain ⟨m, h3, h4⟩ := h2; exact ih m h3 h4
    · exact ⟨n, h, fun k hk => Nat.le_of_not_lt fun hlt => h2 ⟨k, hlt, hk⟩⟩
open Classical in
noncomputable def least (P : Nat → Prop) : Nat := if h : ∃ m, P m ∧ ∀ k, P k → m ≤ k then Classical.choose h else 0
theorem least_spec {P : Nat → Prop} (h : ∃ n, P n) : P (least P) ∧ ∀ k, P k → least P ≤ k := by
  obtain ⟨n, hn⟩ := h
  have hx := least_ex n hn
  unfold least
  rw [dif_pos hx]
  exact Classical.choose_spec hx
structure WayI (nx : Nat → Option Nat) (s : Nat) (acc : List Nat) (i n : Nat) : Prop extends Acc nx s acc where
  pos : 0 < acc.length
  cur : orb nx s (acc.length - 1) = some i
  way_ : way nx s = wayF nx n acc (nx i)
  len : acc.length + n = 20
theorem WayI.start (nx : Nat → Option Nat) {s : Nat} (hs : s < 19) : WayI nx s [s] s 19 := by
  refine ⟨⟨fun j h => ?_, by simp, fun a ha => ?_⟩, by simp, rfl, ?_, rfl⟩
  · have : j = 0 := by simp at h; omega
    subst this; rfl
  · simp at ha; omega
  · show wayF nx 20 [] (some s) = _
    rw [wayF_step (by simp)]; rfl
section
variable {s : Nat} {acc : List Nat} {i n : Nat}
theorem WayI.next_orb (h : WayI nx s acc i n) : orb nx s acc.length = nx i := by
  have : orb nx s (acc.length - 1 + 1) = (orb nx s (acc.length - 1)).bind nx := rfl
  rw [show acc.length - 1 + 1 = acc.length by have := h.pos; omega, h.cur] at this
  exact this
theorem WayI.mem (h : WayI nx s acc i n) : i ∈ acc := by
  have h1 := h.at_ (acc.length - 1) (by have := h.pos; omega)
  rw [h.cur] at h1
  exact List.mem_of_getElem? h1
theorem WayI.stop (h : WayI nx s acc i n) (e : nx i = none) : way nx s = acc := by rw [h.way_, e, wayF_none]
theorem WayI.hit (h : WayI nx s acc i n) {j : Nat} (e : nx i = some j) (hm : j ∈ acc) : way nx s = acc := by rw [h.way_, e, wayF_hit hm]
theorem WayI.next (hn : Nice nx) (hs : s < 19) (h : WayI nx s acc i n) {j : Nat} (e : nx i = some j) (hm : j ∉ acc) : ∃ n', n = n' + 1 ∧ WayI nx s (acc ++ [j]) j n' := by
  have hl := h.toAcc.len
  have ho := h.next_orb
  rw [e] at ho
  obtain ⟨n', rfl⟩ : ∃ n', n = n' + 1 := ⟨n - 1, by have := h.len; omega⟩
  have h2 := h.toAcc.snoc hn hs ho hm
  have h3 := h2.len
  simp at h3
  refine ⟨n', rfl, h2, by simp, by simpa using ho, ?_, by have := h.len; simp; omega⟩
  rw [h.way_, e, wayF_step hm]
end

def onRb (nx : Nat → Option Nat) (s : Nat) : Bool := decide (orb nx s (way nx s).length = some s)
theorem onRb_iff (hn : Nice nx) {s : Nat} (hs : s < 19) : onRb nx s = true ↔ OnR nx s := by
  rw [(way_rho hn hs).onR]; simp [onRb]
def ringsF (nx : Nat → Option Nat) : Nat → List (List Nat)
  | 0 => []
  | k + 1 => if onRb nx k = true ∧ k ∉ (ringsF nx k).flatten then ringsF nx k ++ [way nx k] else ringsF nx k
theorem ringsF_yes {k : Nat} (h1 : onRb nx k = true) (h2 : k ∉ (ringsF nx k).flatten) : ringsF nx (k + 1) = ringsF nx k ++ [way nx k] := by rw [ringsF, if_pos ⟨h1, h2⟩]
theorem ringsF_no {k : Nat} (h : ¬ (onRb nx k = true ∧ k ∉ (ringsF nx k).flatten)) : ringsF nx (k + 1) = ringsF nx k := by rw [ringsF, if_neg h]
theorem ringsF_lt (hn : Nice nx) : ∀ k, k ≤ 9 → (∀ a ∈ (ringsF nx k).flatten, a < 19) ∧ (ringsF nx k).length ≤ k ∧ (ringsF nx k).flatten.length ≤ 19 * k := by
  intro k
  induction k with
  | zero => intro _; exact ⟨by simp [ringsF], by simp [ringsF], by simp [ringsF]⟩
  | succ k ih =>
    intro hk
    obtain ⟨h1, h2, h3⟩ := ih (by omega)
    by_cases h : onRb nx k = true ∧ k ∉ (ringsF nx k).flatten
    · rw [ringsF_yes h.1 h.2]
      have hr := way_rho hn (show k < 19 by omega)
      have hl := hr.len
      refine ⟨fun a ha => ?_, by simp; omega, by simp; simp at h3; omega⟩
      simp only [List.flatten_append, List.mem_append] at ha
      rcases ha with ha | ha
      · exact h1 a ha
      · exact hr.lt a (by simpa using ha)
    · rw [ringsF_no h]; exact ⟨h1, by omega, by omega⟩
end Go.PW
namespace Go.Proofs.YtfedloljhocpgaaGreatDoor
open Go.RowKit Go.PM Go.PW Go.Lib

end Go.Proofs.YtfedloljhocpgaaGreatDoor
namespace Go.PW
open Go.PM
theorem ring_last {f : Nat → ByteArray} (hf : SV f) {s : Nat} (hs : s < 19) : ∃ i, (way (nxT f) s)[(way (nxT f) s).length - 1]? = some i ∧ i < 19 ∧ (onRb (nxT f) s = true ↔ 2 ≤ (way (nxT f) s).length ∧ i < 9 ∧ sx f i = s) := by
  have hn := nice hf
  have hr := way_rho hn hs
  have hp := hr.pos
  have h1 := hr.some_ (j := (way (nxT f) s).length - 1) (by omega)
  have h0 := hr.some_ hp
  refine ⟨_, List.getElem?_eq_getElem (by omega), hr.lt _ (List.getElem_mem _), ?_⟩
  generalize (way (nxT f) s)[(way (nxT f) s).length - 1]'(by omega) = i at *
  have h2 : orb (nxT f) s (way (nxT f) s).length = nxT f i := by
    have : orb (nxT f) s ((way (nxT f) s).length - 1 + 1) = (orb (nxT f) s ((way (nxT f) s).length - 1)).bind (nxT f) := rfl
    rw [show (way (nxT f) s).length - 1 + 1 = (way (nxT f) s).length by omega, h1] at this
    exact this
  unfold onRb
  rw [h2, decide_eq_true_eq]
  constructor
  · intro e
    have h9 := hn.low i s e
    have hi : i ≠ s := fun e2 => hn.irr i (by rw [e, e2])
    have hsx : sx f i = s := by
      by_cases e2 : sx f i = i
      · rw [nxT_stay h9 e2] at e; cases e
      · rw [nxT_some h9 e2] at e; exact Option.some.inj e
    refine ⟨?_, h9, hsx⟩
    rcases Nat.lt_or_ge 1 (way (nxT f) s).length with h | h
    · exact h
    · exfalso
      have h3 : (way (nxT f) s).length - 1 = 0 := by omega
      rw [h3] at h1
      have : orb (nxT f) s 0 = some s := rfl
      rw [this] at h1
      exact hi (Option.some.inj h1).symm
  · rintro ⟨hl, h9, hsx⟩
    have hi : sx f i ≠ i := by
      intro e
      have e2 : s = i := by rw [← hsx, e]
      have h3 : orb (nxT f) s 0 = orb (nxT f) s ((way (nxT f) s).length - 1) := by rw [h1, ← e2]; rfl
      have := hr.inj hp (by omega) h3
      omega
    rw [nxT_some h9 hi, hsx]
end Go.PW
namespace Go.Proofs.YtfedloljhocpgaaGreatDoor
open Go.RowKit Go.PM Go.PW Go.Lib

end Go.Proofs.YtfedloljhocpgaaGreatDoor
namespace Go.PW
open Go.PM
def ringsT (nx : Nat → Option Nat) (k : Nat) : List ByteArray := (ringsF nx k).map txt
def ringsB (xs : List Mv) : List ByteArray := if mvalid xs then ringsT (nxT (tabOf xs)) 9 else []
theorem ringsB_len (xs : List Mv) : (ringsB xs).length ≤ 1000 := by
  unfold ringsB
  by_cases h : mvalid xs = true
  · rw [if_pos h]
    have := (ringsF_lt (nice (SV_tab (by simpa [mvalid] using h))) 9 (by omega)).2.1
    unfold ringsT; rw [List.length_map]; omega
  · rw [if_neg h]; simp
theorem way_first (nx : Nat → Option Nat) (s : Nat) (hn : Nice nx) (hs : s < 19) : ∃ l, way nx s = s :: l := by
  have hr := way_rho hn hs
  have h1 := hr.at_ 0 hr.pos
  cases hw : way nx s with
  | nil => have := hr.pos; rw [hw] at this; simp at this
  | cons a l =>
    rw [hw] at h1
    simp only [List.getElem?_cons_zero, orb, Option.some.injEq] at h1
    subst h1; exact ⟨l, rfl⟩
end Go.PW
namespace Go.Proofs.YtfedloljhocpgaaGreatDoor
open Go.RowKit Go.PM Go.PW Go.Lib

end Go.Proofs.YtfedloljhocpgaaGreatDoor
namespace Go.PW
open Go.RowKit Go.PM
def spotV (b : Nat) : Option Nat → Value
  | none => .pointer none
  | some j => .pointer (some ⟨b, j * 2, none⟩)
structure Spots (w : World) (b : Nat) (nx : Nat → Option Nat) : Prop where
  row : ∃ t cs, At w b t cs
  name : ∀ i, i < 19 → w.cell? ⟨b, i * 2, none⟩ = some (.string (sn i))
  src : ∀ i, i < 19 → w.cell? ⟨b, i * 2 + 1, none⟩ = some (spotV b (nx i))
theorem Spots.lt {w : World} {b : Nat} {nx : Nat → Option Nat} (h : Spots w b nx) : b < w.heap.size := by
  obtain ⟨t, cs, h⟩ := h.row; exact h.lt
theorem Spots.below {w w' : World} {b : Nat} {nx : Nat → Option Nat} (h : Spots w b nx) (hb : Below w.heap.size w w') : Spots w' b nx :=
  ⟨by obtain ⟨t, cs, h⟩ := h.row; exact ⟨t, cs, h.keep hb⟩, fun i hi => (hb.cell (p := ⟨b, i * 2, none⟩) h.lt).trans (h.name i hi), fun i hi => (hb.cell (p := ⟨b, i * 2 + 1, none⟩) h.lt).trans (h.src i hi)⟩
def Run (ob : Nat → Option Nat) (b K : Nat) (r : Nat) (sl fa : Value) : Prop := ∃ k, k + r = K ∧ 0 < r ∧ sl = spotV b (ob k) ∧ fa = spotV b (ob (2 * k))
theorem Run.next {ob : Nat → Option Nat} {b K k : Nat} {X Y X0 Y0 : Value} (h1 : k + least (fun r => Run ob b K r X0 Y0) = K) (hk : k + 1 < K) (hX : X = spotV b (ob (k + 1))) (hY : Y = spotV b (ob (2 * (k + 1)))) :
    (∃ r, Run ob b K r X Y) ∧ least (fun r => Run ob b K r X Y) < least (fun r => Run ob b K r X0 Y0) := by
  have h : Run ob b K (K - (k + 1)) X Y := ⟨k + 1, by omega, by omega, hX, hY⟩
  refine ⟨⟨_, h⟩, ?_⟩
  have := (least_spec (P := fun r => Run ob b K r X Y) ⟨_, h⟩).2 _ h
  omega
end Go.PW
namespace Go.Proofs.YtfedloljhocpgaaGreatDoor
open Go.RowKit Go.PM Go.PW Go.Lib

theorem infoSp : (Tryz.prog.info? 138).map (fun i => (i.zero, i.size, i.bytes)) = some (some (.agg #[.string ⟨#[]⟩, .pointer none]), 2, 24) := by kernel_rfl
theorem eqlp_yes (w : World) (a : Addr) : (binOp .eql 136 (.pointer (some a)) (.pointer (some a))).run Tryz.prog w = .ok (.bool true) w := by
  obtain ⟨i0, hi0, hz0, hz1, hz2⟩ := info_parts infoSp
  exact run_eql_ptr_same w a Tryz.underlying136 hi0
theorem eqlp_no (w : World) (b : Nat) (nx : Nat → Option Nat) (hS : Spots w b nx) (i j : Nat) (h : ¬ i = j) : (binOp .eql 136 (.pointer (some ⟨b, i * 2, none⟩)) (.pointer (some ⟨b, j * 2, none⟩))).run Tryz.prog w = .ok (.bool false) w := by
  obtain ⟨i0, hi0, hz0, hz1, hz2⟩ := info_parts infoSp
  obtain ⟨t, cs, hA⟩ := hS.row
  exact run_eql_ptr_other w Tryz.underlying136 hi0 (by rw [hz1]; decide) (by intro e; injection e with _ e; omega) hA hA
theorem neqp_yes (w : World) (a : Addr) : (binOp .neq 136 (.pointer (some a)) (.pointer (some a))).run Tryz.prog w = .ok (.bool false) w := by
  have h := eqlp_yes w a
  simp only [binOp] at h ⊢
  simp only [Sem.run_bind] at h ⊢
  revert h
  cases (Op.equal 136 (.pointer (some a)) (.pointer (some a))).run Tryz.prog w <;> simp [Result.andThen]
theorem neqp_no (w : World) (b : Nat) (nx : Nat → Option Nat) (hS : Spots w b nx) (i j : Nat) (h : ¬ i = j) : (binOp .neq 136 (.pointer (some ⟨b, i * 2, none⟩)) (.pointer (some ⟨b, j * 2, none⟩))).run Tryz.prog w = .ok (.bool true) w := by
  have h := eqlp_no w b nx hS i j h
  simp only [binOp] at h ⊢
  simp only [Sem.run_bind] at h ⊢
  revert h
  cases (Op.equal 136 (.pointer (some ⟨b, i * 2, none⟩)) (.pointer (some ⟨b, j * 2, none⟩))).run Tryz.prog w <;> simp [Result.andThen]

set_option maxRecDepth 100000 in
set_option maxHeartbeats 1000000 in
theorem meeting_c (b : Nat) (nx : Nat → Option Nat) (hn : Nice nx) (s : Nat) (hs : s < 19) (w : World) (hS : Spots w b nx) :
    Calls Tryz.prog 155 #[spotV b (some s)] w fun e w' => (∃ m, e = .returned (spotV b m) ∧ Meet nx s m) ∧ Below w.heap.size w w' := by
  have hmt := (way_rho hn hs).meets
  obtain ⟨K, hK1, hK2, hK3⟩ := hmt
  have HK3 := Lib.hid hK3
  have HL := Lib.hid (fun k i (h : orb nx s k = some i) => orb_lt hn hs k i h)
  have HO := Lib.hid (show ∀ k, orb nx s (k + 1) = (orb nx s k).bind nx from fun _ => rfl)
  have HZ : Hid (orb nx s 0 = some s) := rfl
  have HG := Lib.hid (fun a b (h : orb nx s a = none) (hab : a ≤ b) => orb_none_ge h hab)
  have HM : Hid (∀ m, Meet nx s m ↔ (m = none ∧ ∃ k, orb nx s k = none) ∨ ∃ k, 0 < k ∧ m = orb nx s k ∧ orb nx s k = orb nx s (2 * k)) := fun _ => Iff.rfl
  have hbl := hS.lt
  clear hK3 hn
  generalize orb nx s = ob at *
  change Calls Tryz.prog _ #[.pointer (some ⟨b, s * 2, none⟩)] w _
  go_enter Tryz.func155, Tryz.ntmps155
  go_wp2
  go_loopw [3, 4] (fun sl fa wr => (∃ r, Run ob b K r sl fa) ∧ Below w.heap.size w wr) (fun sl fa _ => least (fun r => Run ob b K r sl fa))
  case atStart => exact ⟨⟨K, 0, by omega, by omega, by rw [HZ.out]; rfl, by rw [HZ.out]; rfl⟩, Below.refl _ _⟩
  case round =>
    obtain ⟨hru, hb⟩ := hrel
    obtain ⟨k, hk0, hk1, e3, e4⟩ := (least_spec hru).1
    clear hru
    have HK0 := Lib.hid hk0
    have hk : k < K := by omega
    clear hk0 hk1
    subst e3 e4
    have hS2 := hS.below hb
    have hbs := hb.size
    cases hfa : ob (2 * k) with
    | none =>
      have HF := Lib.hid hfa
      clear hfa
      rw [show spotV b none = .pointer none from rfl]
      go_wp2
      go_ret
      exact ⟨⟨none, rfl, (HM.out none).2 (.inl ⟨rfl, _, HF.out⟩)⟩, hb⟩
    | some j =>
      have hjl := HL.out _ _ hfa
      have hcj := hS2.src j hjl
      rw [show spotV b (some j) = .pointer (some ⟨b, j * 2, none⟩) from rfl]
      cases hj2 : nx j with
      | none =>
        have HE : Hid (ob (2 * k + 1) = none) := by show _ = _; rw [HO.out, hfa]; exact hj2
        rw [hj2, show spotV b none = .pointer none from rfl] at hcj
        clear hj2 hfa
        go_wp2
        go_ret
        exact ⟨⟨none, rfl, (HM.out none).2 (.inl ⟨rfl, _, HE.out⟩)⟩, hb⟩
      | some j2 =>
        rw [hj2, show spotV b (some j2) = .pointer (some ⟨b, j2 * 2, none⟩) from rfl] at hcj
        have h21 : ob (2 * k + 1) = some j2 := by rw [HO.out, hfa]; exact hj2
        have h22 : ob (2 * (k + 1)) = nx j2 := by rw [show 2 * (k + 1) = 2 * k + 1 + 1 by omega, HO.out, h21]; rfl
        have hl2 := HL.out _ _ h21
        have hc2 := hS2.src j2 hl2
        cases hsl : ob k with
        | none => rw [HG.out _ _ hsl (show k ≤ 2 * k by omega)] at hfa; cases hfa
        | some i =>
          have hil := HL.out _ _ hsl
          have hci := hS2.src i hil
          have h11 : ob (k + 1) = nx i := by rw [HO.out, hsl]; rfl
          rw [show spotV b (some i) = .pointer (some ⟨b, i * 2, none⟩) from rfl]
          have HK1 : Hid (k + least (fun r => Run ob b K r (.pointer (some ⟨b, i * 2, none⟩)) (.pointer (some ⟨b, j * 2, none⟩))) = K) := by
            have h0 := HK0.out
            rw [hsl, hfa] at h0
            exact h0
          have H22 := Lib.hid h22
          have H11 := Lib.hid h11
          clear hj2 hfa h22 h11 hsl h21
          generalize nx j2 = f2 at *
          generalize nx i = s2 at *
          go_wp2
          have cx1 : ∀ x : Ext w.heap.size wr, x.val.cell? ⟨b, i * 2 + 1, none⟩ = some (spotV b s2) := fun x => (x.property.cell (p := ⟨b, i * 2 + 1, none⟩) hbl).trans hci
          have cx2 : ∀ x : Ext w.heap.size wr, x.val.cell? ⟨b, j * 2 + 1, none⟩ = some (.pointer (some ⟨b, j2 * 2, none⟩)) := fun x => (x.property.cell (p := ⟨b, j * 2 + 1, none⟩) hbl).trans hcj
          have cx3 : ∀ x : Ext w.heap.size wr, x.val.cell? ⟨b, j2 * 2 + 1, none⟩ = some (spotV b f2) := fun x => (x.property.cell (p := ⟨b, j2 * 2 + 1, none⟩) hbl).trans hc2
          refine wp_region_ext w.heap.size (by kernel_rfl) (by kernel_rfl) ?_
          repeat (go_big_quiet_step (fail))
          refine wpQuiet_nil ?_
          intro w2 hw'
          obtain ⟨xw, hxw⟩ := hw'
          have hb2 := xw.property
          rw [← hxw] at hb2
          clear hxw xw cx1 cx2 cx3 hcj hc2 hci
          have hbw := hb.trans hb2
          have HEQ : Hid (s2 = f2 → Meet nx s s2) := fun e => (HM.out s2).2 (.inr ⟨k + 1, by omega, H11.out.symm, by rw [H11.out, H22.out, e]⟩)
          have HNE : Hid (s2 ≠ f2 → k + 1 < K) := by
            intro e
            rcases Nat.lt_or_ge (k + 1) K with h1 | h1
            · exact h1
            · exfalso
              have : k + 1 = K := by omega
              have h2 := HK3.out
              rw [← this, H11.out, H22.out] at h2
              exact e h2
          have HNX : Hid (s2 = ob (k + 1) ∧ f2 = ob (2 * (k + 1))) := ⟨H11.out.symm, H22.out.symm⟩
          clear H11 H22
          cases s2 with
          | none =>
            cases f2 with
            | none =>
              have HT := Lib.hid (HEQ.out rfl)
              rw [show spotV b none = .pointer none from rfl]
              go_wp2
              go_ret
              exact ⟨⟨none, rfl, HT.out⟩, hbw⟩
            | some j3 =>
              exfalso
              have h1 := HG.out _ _ HNX.out.1.symm (show k + 1 ≤ 2 * (k + 1) by omega)
              rw [← HNX.out.2] at h1; cases h1
          | some i2 =>
            cases f2 with
            | none =>
              have hk2 := HNE.out (by intro h; cases h)
              rw [show spotV b none = .pointer none from rfl, show spotV b (some i2) = .pointer (some ⟨b, i2 * 2, none⟩) from rfl]
              have HFIN := Lib.hid (Run.next (X := .pointer (some ⟨b, i2 * 2, none⟩)) (Y := .pointer none) HK1.out hk2 (by rw [← HNX.out.1]; rfl) (by rw [← HNX.out.2]; rfl))
              go_wp2
              go_roundw
              case rel => exact ⟨HFIN.out.1, hbw⟩
              case measure => exact HFIN.out.2
            | some j3 =>
              rw [show spotV b (some j3) = .pointer (some ⟨b, j3 * 2, none⟩) from rfl, show spotV b (some i2) = .pointer (some ⟨b, i2 * 2, none⟩) from rfl]
              by_cases e : i2 = j3
              · subst e
                have hq := eqlp_yes w2 ⟨b, i2 * 2, none⟩
                have HT := Lib.hid (HEQ.out rfl)
                go_wp2
                go_ret
                exact ⟨⟨some i2, rfl, HT.out⟩, hbw⟩
              · have hk2 := HNE.out (fun h => e (Option.some.inj h))
                have hq := eqlp_no w2 b nx (hS.below hbw) i2 j3 e
                have HFIN := Lib.hid (Run.next (X := .pointer (some ⟨b, i2 * 2, none⟩)) (Y := .pointer (some ⟨b, j3 * 2, none⟩)) HK1.out hk2 (by rw [← HNX.out.1]; rfl) (by rw [← HNX.out.2]; rfl))
                go_wp2
                go_roundw
                case rel => exact ⟨HFIN.out.1, hbw⟩
                case measure => exact HFIN.out.2
end Go.Proofs.YtfedloljhocpgaaGreatDoor
namespace Go.PW
open Go.RowKit Go.PM
def Run2 (ob : Nat → Option Nat) (b k D : Nat) (r : Nat) (x y : Value) : Prop := ∃ j, j + r = D ∧ x = spotV b (ob j) ∧ y = spotV b (ob (k + j))
theorem Run2.next {ob : Nat → Option Nat} {b k D j : Nat} {X Y X0 Y0 : Value} (h1 : j + least (fun r => Run2 ob b k D r X0 Y0) = D) (hk : j < D) (hX : X = spotV b (ob (j + 1))) (hY : Y = spotV b (ob (k + (j + 1)))) :
    (∃ r, Run2 ob b k D r X Y) ∧ least (fun r => Run2 ob b k D r X Y) < least (fun r => Run2 ob b k D r X0 Y0) := by
  have h : Run2 ob b k D (D - (j + 1)) X Y := ⟨j + 1, by omega, hX, hY⟩
  refine ⟨⟨_, h⟩, ?_⟩
  have := (least_spec (P := fun r => Run2 ob b k D r X Y) ⟨_, h⟩).2 _ h
  omega
end Go.PW
namespace Go.Proofs.YtfedloljhocpgaaGreatDoor
open Go.RowKit Go.PM Go.PW Go.Lib

set_option maxRecDepth 100000 in
set_option maxHeartbeats 1000000 in
theorem entrance_c (b : Nat) (nx : Nat → Option Nat) (hn : Nice nx) (s : Nat) (hs : s < 19) (w : World) (hS : Spots w b nx) :
    Calls Tryz.prog 111 #[spotV b (some s)] w fun e w' => (∃ m, e = .returned (spotV b m) ∧ Ent nx s m) ∧ Below w.heap.size w w' := by
  have hrho := way_rho hn hs
  have HSec := Lib.hid (fun m (h : Meet nx s m) => hrho.second h)
  obtain ⟨D0, hD0, _⟩ := hrho.stops
  have HEn : Hid (∀ k, orb nx s k = none → Ent nx s none) := fun k hk => ⟨D0, hD0, .inl ⟨rfl, k, hk⟩⟩
  have HEs : Hid (∀ D, Stops nx s D → (∀ i, orb nx s i ≠ none) → Ent nx s (orb nx s D)) := fun D hD h => ⟨D, hD, .inr ⟨rfl, h⟩⟩
  have HL := Lib.hid (fun k i (h : orb nx s k = some i) => orb_lt hn hs k i h)
  have HO := Lib.hid (show ∀ k, orb nx s (k + 1) = (orb nx s k).bind nx from fun _ => rfl)
  have HZ : Hid (orb nx s 0 = some s) := rfl
  have hbl := hS.lt
  have HMT := Lib.hid (meeting_c b nx hn s hs w hS)
  clear hrho hD0 hn
  change Calls Tryz.prog _ #[.pointer (some ⟨b, s * 2, none⟩)] w _
  go_enter Tryz.func111, Tryz.ntmps111
  go_wp2_with fail
  refine HMT.out.mono ?_
  rintro e w1 ⟨⟨m, rfl, hm⟩, hb1⟩
  have hS1 := hS.below hb1
  have hs1 := hb1.size
  rcases HSec.out m hm with ⟨rfl, k, hk⟩ | ⟨k, D, hD, rfl, hne, heq, hall⟩
  · have HF := Lib.hid (HEn.out k hk)
    clear hm hk
    rw [show spotV b none = .pointer none from rfl]
    go_wp2
    refine wp_loop_rounds 1 ?_
    rw [rounds_succ]
    go_wp2
    go_ret
    exact ⟨⟨none, rfl, HF.out⟩, hb1⟩
  · have HF := Lib.hid (HEs.out D hD hall)
    have HNE := Lib.hid hne
    have HEQ := Lib.hid heq
    have HA := Lib.hid hall
    clear hm hD hne heq hall HEn HEs HSec HMT
    generalize orb nx s = ob at *
    go_wp2
    go_loopw [3, 4] (fun x y wr => (∃ r, Run2 ob b k D r x y) ∧ Below w.heap.size w wr) (fun x y _ => least (fun r => Run2 ob b k D r x y))
    case atStart => exact ⟨⟨D, 0, by omega, by rw [HZ.out]; rfl, rfl⟩, hb1⟩
    case round =>
      obtain ⟨hru, hb⟩ := hrel
      obtain ⟨j, hk0, e3, e4⟩ := (least_spec hru).1
      clear hru
      have HK0 := Lib.hid hk0
      have hk : j ≤ D := by omega
      clear hk0
      subst e3 e4
      have hS2 := hS.below hb
      have hbs := hb.size
      cases hx : ob j with
      | none => exact absurd hx (HA.out _)
      | some x =>
        cases hy : ob (k + j) with
        | none => exact absurd hy (HA.out _)
        | some y =>
          rw [show spotV b (some x) = .pointer (some ⟨b, x * 2, none⟩) from rfl, show spotV b (some y) = .pointer (some ⟨b, y * 2, none⟩) from rfl]
          have HK1 : Hid (j + least (fun r => Run2 ob b k D r (.pointer (some ⟨b, x * 2, none⟩)) (.pointer (some ⟨b, y * 2, none⟩))) = D) := by
            have h0 := HK0.out
            rw [hx, hy] at h0
            exact h0
          by_cases hj : j = D
          · have e : x = y := by
              have h := HEQ.out
              rw [← hj, hx, hy] at h
              exact Option.some.inj h
            subst e
            have HR : Hid (ob D = some x) := by show _ = _; rw [← hj]; exact hx
            have hq := neqp_yes wr ⟨b, x * 2, none⟩
            clear hx hy hj HK0 HK1
            go_wp2
            go_ret
            exact ⟨⟨some x, rfl, by rw [← HR.out]; exact HF.out⟩, hb⟩
          · have hjD : j < D := by omega
            have e : ¬ x = y := fun e => HNE.out j hjD (by rw [hx, hy, e])
            have hq := neqp_no wr b nx hS2 x y e
            have hxl := HL.out _ _ hx
            have hyl := HL.out _ _ hy
            have hcx := hS2.src x hxl
            have hcy := hS2.src y hyl
            have h1 : ob (j + 1) = nx x := by rw [HO.out, hx]; rfl
            have h2 : ob (k + (j + 1)) = nx y := by rw [← Nat.add_assoc, HO.out, hy]; rfl
            have HFIN := Lib.hid (Run2.next (X := spotV b (nx x)) (Y := spotV b (nx y)) HK1.out hjD (by rw [h1]) (by rw [h2]))
            clear hx hy h1 h2 HK0 HK1
            generalize nx x = x2 at *
            generalize nx y = y2 at *
            go_wp2
            have cx1 : ∀ x_1 : Ext w.heap.size wr, x_1.val.cell? ⟨b, x * 2 + 1, none⟩ = some (spotV b x2) := fun x_1 => (x_1.property.cell (p := ⟨b, x * 2 + 1, none⟩) hbl).trans hcx
            have cx2 : ∀ x_1 : Ext w.heap.size wr, x_1.val.cell? ⟨b, y * 2 + 1, none⟩ = some (spotV b y2) := fun x_1 => (x_1.property.cell (p := ⟨b, y * 2 + 1, none⟩) hbl).trans hcy
            refine wp_region_ext w.heap.size (by kernel_rfl) (by kernel_rfl) ?_
            repeat (go_big_quiet_step (fail))
            refine wpQuiet_nil ?_
            intro w2 hw'
            obtain ⟨xw, hxw⟩ := hw'
            have hb2 := xw.property
            rw [← hxw] at hb2
            clear hxw xw cx1 cx2 hcx hcy hq
            have hbw := hb.trans hb2
            go_wp2
            go_roundw
            case rel => exact ⟨HFIN.out.1, hbw⟩
            case measure => exact HFIN.out.2
end Go.Proofs.YtfedloljhocpgaaGreatDoor
namespace Go.Proofs.YtfedloljhocpgaaGreatDoor
open Go.RowKit Go.PM Go.PW Go.Lib

set_option maxRecDepth 100000 in
set_option maxHeartbeats 1000000 in
theorem wayBack_c (b : Nat) (nx : Nat → Option Nat) (hn : Nice nx) (s : Nat) (hs : s < 19) (w : World) (hS : Spots w b nx) :
    Calls Tryz.prog 112 #[spotV b (some s)] w fun e w' => e = .returned (.string (txt (way nx s))) ∧ Below w.heap.size w w' := by
  have HZ : Hid (way nx s = wayF nx 20 [] (some s)) := rfl
  have HO := Lib.hid (show ∀ k, orb nx s (k + 1) = (orb nx s k).bind nx from fun _ => rfl)
  have HSN := Lib.hid (fun acc i (h : Acc nx s acc) (hi : orb nx s acc.length = some i) hm => h.snoc hn hs hi hm)
  have HST := Lib.hid (fun n acc i (hm : i ∉ acc) => wayF_step (nx := nx) (n := n) hm)
  have HHT := Lib.hid (fun n acc i (hm : i ∈ acc) => wayF_hit (nx := nx) (n := n) hm)
  have HNO := Lib.hid (fun n acc => wayF_none (nx := nx) (n := n) (acc := acc))
  have HL := Lib.hid (fun k i (h : orb nx s k = some i) => orb_lt hn hs k i h)
  have HAN := Lib.hid (Acc.nil (nx := nx) s)
  have HORB0 : Hid (orb nx s 0 = some s) := rfl
  have hbl := hS.lt
  have hcon : ∀ (t : ByteArray) c (W : World), Calls Tryz.prog 104 #[.string t, .string ⟨#[c]⟩] W fun e w' => e = .returned (.bool (decide (c ∈ t.data.toList))) ∧ W = w' := fun t c W =>
    (Tryz.strings_Contains_one t c W).mono fun _ _ ⟨e1, e2⟩ => ⟨by
      rw [e1]; congr 2; simp only [indexByte_mem], e2.symm⟩
  have HC := Lib.hid hcon
  clear hcon hn
  change Calls Tryz.prog _ #[.pointer (some ⟨b, s * 2, none⟩)] w _
  go_enter Tryz.func112, Tryz.ntmps112
  go_wp2
  go_loopw [3, 4] (fun o x wr => ∃ (acc : List Nat) (n : Nat) (c : Option Nat), o = .string (txt acc) ∧ x = spotV b c ∧ acc.length + n = 20 ∧ Hid (Acc nx s acc ∧ orb nx s acc.length = c ∧ way nx s = wayF nx n acc c) ∧ Below w.heap.size w wr) (fun o _ _ => 20 - strLen o)
  case atStart => exact ⟨[], 20, some s, rfl, rfl, rfl, ⟨HAN.out, HORB0.out, HZ.out⟩, Below.refl _ _⟩
  case round =>
    obtain ⟨acc, n, c, rfl, rfl, hn20, hA, hb⟩ := hrel
    have hbs := hb.size
    have hS2 := hS.below hb
    have hal := hA.out.1.len
    have hz := txt_size acc
    cases c with
    | none =>
      have HF : Hid (way nx s = acc) := by show _ = _; rw [hA.out.2.2]; exact HNO.out n acc
      rw [show spotV b none = .pointer none from rfl]
      clear hA
      go_wp2
      go_ret
      exact ⟨by rw [HF.out]; rfl, hb⟩
    | some i =>
      have hil := HL.out _ _ hA.out.2.1
      have hcn := hS2.name i hil
      have hcs := hS2.src i hil
      have hone : sn i = ⟨#[ch i]⟩ := rfl
      rw [hone] at hcn
      have HM := Lib.hid (txt_mem hA.out.1.lt hil)
      have HTS := Lib.hid (txt_snoc acc i)
      have hcc := fun W => HC.out (txt acc) (ch i) W
      have HONE := Lib.hid hone
      clear hone
      rw [show spotV b (some i) = .pointer (some ⟨b, i * 2, none⟩) from rfl]
      have hc1 : (⟨#[ch i]⟩ : ByteArray).size = 1 := rfl
      by_cases hin : i ∈ acc
      · have HF : Hid (way nx s = acc) := by show _ = _; rw [hA.out.2.2]; exact HHT.out n acc i hin
        have hd : decide (ch i ∈ (txt acc).data.toList) = true := by simpa using HM.out.2 hin
        rw [hd] at hcc
        have HCC := Lib.hid hcc
        clear hcc hd hA HM hin
        generalize ch i = c at *
        go_wp2_with (go_at_call 104; refine (HCC.out _).mono ?_; rintro e w' ⟨rfl, rfl⟩)
        go_ret
        exact ⟨by rw [HF.out]; rfl, hb⟩
      · obtain ⟨n', rfl⟩ : ∃ n', n = n' + 1 := ⟨n - 1, by omega⟩
        have hd : decide (ch i ∈ (txt acc).data.toList) = false := by simpa using fun h => hin (HM.out.1 h)
        rw [hd] at hcc
        have HCC := Lib.hid hcc
        have HN : Hid (Acc nx s (acc ++ [i]) ∧ orb nx s (acc ++ [i]).length = nx i ∧ way nx s = wayF nx n' (acc ++ [i]) (nx i)) := by
          refine ⟨HSN.out acc i hA.out.1 hA.out.2.1 hin, ?_, ?_⟩
          · rw [show (acc ++ [i]).length = acc.length + 1 by simp, HO.out, hA.out.2.1]; rfl
          · rw [hA.out.2.2, HST.out _ _ _ hin]
        clear hcc hd hA HM hin
        generalize ch i = c at *
        generalize nx i = ni at *
        go_wp2_with (go_at_call 104; refine (HCC.out _).mono ?_; rintro e w' ⟨rfl, rfl⟩)
        go_roundw
        case rel => exact ⟨acc ++ [i], n', ni, by rw [HTS.out, HONE.out], rfl, by simp; omega, HN, hb⟩
        case measure => simp [strLen, ByteArray.size_append, hc1, hz]; omega
end Go.Proofs.YtfedloljhocpgaaGreatDoor
namespace Go.PW
open Go.RowKit Go.PM
def spA (n : Nat → ByteArray) (s : Nat → Value) : Array Value := Array.ofFn (n := 38) fun j => if j.val % 2 = 0 then .string (n (j.val / 2)) else s (j.val / 2)
theorem spA_name (n : Nat → ByteArray) (s : Nat → Value) (i : Nat) (hi : i < 19) : (spA n s)[i * 2]? = some (.string (n i)) := by
  have h : i * 2 < 38 := by omega
  simp [spA, h]
theorem spA_src (n : Nat → ByteArray) (s : Nat → Value) (i : Nat) (hi : i < 19) : (spA n s)[i * 2 + 1]? = some (s i) := by
  have h : i * 2 + 1 < 38 := by omega
  have h2 : ¬ (i * 2 + 1) % 2 = 0 := by omega
  have h3 : (i * 2 + 1) / 2 = i := by omega
  simp [spA, h, h3]
theorem spA_setName (n : Nat → ByteArray) (s : Nat → Value) (i : Nat) (_hi : i < 19) (x : ByteArray) : (spA n s).setIfInBounds (i * 2) (.string x) = spA (upd n i x) s := by
  apply Array.ext
  · simp [spA]
  · intro j h1 h2
    rw [Array.getElem_setIfInBounds (by simpa [spA] using h2)]
    simp only [spA, Array.getElem_ofFn, upd]
    by_cases e : i * 2 = j
    · subst e
      simp
    · by_cases e2 : j % 2 = 0
      · have : ¬ j / 2 = i := by omega
        simp [e, e2, this]
      · simp [e, e2]
theorem spA_setSrc (n : Nat → ByteArray) (s : Nat → Value) (i : Nat) (_hi : i < 19) (x : Value) : (spA n s).setIfInBounds (i * 2 + 1) x = spA n (fun q => if q = i then x else s q) := by
  apply Array.ext
  · simp [spA]
  · intro j h1 h2
    rw [Array.getElem_setIfInBounds (by simpa [spA] using h2)]
    simp only [spA, Array.getElem_ofFn]
    by_cases e : i * 2 + 1 = j
    · subst e
      have h2 : ¬ (i * 2 + 1) % 2 = 0 := by omega
      have h3 : (i * 2 + 1) / 2 = i := by omega
      simp [h3]
    · by_cases e2 : j % 2 = 0
      · simp [e, e2]
      · have : ¬ j / 2 = i := by omega
        simp [e, e2, this]
abbrev zS : Array Value := #[.string ⟨#[]⟩, .pointer none, .string ⟨#[]⟩, .pointer none, .string ⟨#[]⟩, .pointer none, .string ⟨#[]⟩, .pointer none, .string ⟨#[]⟩, .pointer none, .string ⟨#[]⟩, .pointer none, .string ⟨#[]⟩, .pointer none, .string ⟨#[]⟩, .pointer none, .string ⟨#[]⟩, .pointer none, .string ⟨#[]⟩, .pointer none, .string ⟨#[]⟩, .pointer none, .string ⟨#[]⟩, .pointer none, .string ⟨#[]⟩, .pointer none, .string ⟨#[]⟩, .pointer none, .string ⟨#[]⟩, .pointer none, .string ⟨#[]⟩, .pointer none, .string ⟨#[]⟩, .pointer none, .string ⟨#[]⟩, .pointer none, .string ⟨#[]⟩, .pointer none]
theorem zS_eq : zS = spA (fun _ => emp) (fun _ => .pointer none) := rfl
def nmK (k : Nat) : Nat → ByteArray := fun i => if i < k then sn i else emp
theorem nmK_zero : nmK 0 = fun _ => emp := by funext i; simp [nmK]
theorem nmK_succ (k : Nat) : upd (nmK k) k (sn k) = nmK (k + 1) := by
  funext i
  unfold upd nmK
  by_cases h : i = k
  · subst h; simp
  · by_cases h2 : i < k
    · simp [h, h2, Nat.lt_succ_of_lt h2]
    · have : ¬ i < k + 1 := by omega
      simp [h, h2, this]
def srcK (f : Nat → ByteArray) (b k : Nat) : Nat → Value := fun i => if i < k then spotV b (nxT f i) else .pointer none
theorem srcK_zero (f : Nat → ByteArray) (b : Nat) : srcK f b 0 = fun _ => .pointer none := by funext i; simp [srcK]
theorem srcK_succ (f : Nat → ByteArray) (b k : Nat) : (fun q => if q = k then spotV b (nxT f k) else srcK f b k q) = srcK f b (k + 1) := by
  funext i
  unfold srcK
  by_cases h : i = k
  · subst h; simp
  · by_cases h2 : i < k
    · simp [h, h2, Nat.lt_succ_of_lt h2]
    · have : ¬ i < k + 1 := by omega
      simp [h, h2, this]
theorem srcK_same (f : Nat → ByteArray) (b k : Nat) (h : nxT f k = none) : srcK f b k = srcK f b (k + 1) := by
  rw [← srcK_succ, h]
  funext i
  by_cases h : i = k
  · subst h; simp [srcK, spotV]
  · simp [h]
end Go.PW
namespace Go.Proofs.YtfedloljhocpgaaGreatDoor
open Go.RowKit Go.PM Go.PW Go.Lib
attribute [local go_sem] Oper.semAt_some

set_option maxRecDepth 100000 in
set_option maxHeartbeats 800000 in
theorem spotsOf_c (f : Nat → ByteArray) (hf : SV f) (w : World) :
    Calls Tryz.prog 52 #[tabX f] w fun e w' => (∃ b, e = .returned (.pointer (some ⟨b, 0, none⟩)) ∧ w.heap.size ≤ b ∧ Spots w' b (nxT f)) ∧ Below w.heap.size w w' := by
  have HEX : Hid (∀ q, q < 19 → (ByteArray.mk #[97, 98, 99, 100, 101, 102, 65, 66, 67, 48, 49, 50, 51, 52, 53, 54, 55, 56, 57]).extract q (q+1) = sn q) := by
    show ∀ q, _
    intro q hq
    rw [extract_one _ _ (by show q < 19; exact hq)]; rfl
  refine (callsIn_wide (n := 5)).1 ?_
  refine callsIn_of_wp_marks Tryz.func52 rfl trivial ?_ rfl
  simp only [Tryz.ntmps52, List.size_toArray, List.length_cons, List.length_nil, Nat.reduceAdd, Nat.reduceSub, Array.replicate_succ, Array.replicate_zero, List.push_toArray, List.append_toArray, List.nil_append, List.cons_append]
  gi_wp2
  gi_loopw [4, 10] (fun _ i wr => ∃ k : Nat, k ≤ 19 ∧ i = .int .i64 k ∧ At wr w.heap.size 65 (tabA f) ∧ At wr (w.heap.size + 1) 140 (spA (nmK k) (fun _ => .pointer none)) ∧ At wr (w.heap.size + 2) 81 #[.pointer (some ⟨w.heap.size + 1, 0, none⟩)] ∧ Below w.heap.size w wr) (fun _ i _ => 19 - (RowKit.intOf i).toNat)
  case atStart =>
    refine ⟨0, by omega, rfl, ?_, ?_, ?_, by (repeat' (first | (with_reducible exact Below.refl _ _) | (with_reducible assumption) | (with_reducible refine Below.alloc ?_ ?_ _) | (with_reducible refine Below.drew ?_) | (with_reducible refine Below.setCell ?_ ?_ _) | (with_reducible exact Nat.le_refl _) | omega | ((repeat (first | rewrite [World.size_alloc] | rewrite [World.size_setCell] | rewrite [World.size_drew])); omega) | (simp; omega) | (simp; done)))⟩
    · exact ((At.new _ _ _).alloc _).alloc _
    · rw [nmK_zero, ← zS_eq]
      have := At.new (w.alloc (.cells (tabA f) 65)) 140 zS
      rw [World.size_alloc] at this
      exact this.alloc _
    · have := At.new ((w.alloc (.cells (tabA f) 65)).alloc (.cells zS 140)) 81 #[.pointer (some ⟨w.heap.size + 1, 0, none⟩)]
      rw [World.size_alloc, World.size_alloc] at this
      exact this
  case round =>
    obtain ⟨k, hk, rfl, h1, h2, h3, hb⟩ := hrel
    have hbs := hb.size
    by_cases hlt : k < 19
    · have hc3 : wr.drew.cell? ⟨w.heap.size + 2, 0, none⟩ = some (.pointer (some ⟨w.heap.size + 1, 0, none⟩)) := h3.cell 0
      have hl2 := h2.lt
      have hc2 : wr.drew.cell? ⟨w.heap.size + 1, k * 2, none⟩ = some (.string (nmK k k)) := (h2.cell (k * 2)).trans (spA_name _ _ k hlt)
      have hf2 : wr.drew.frozen? ⟨w.heap.size + 1, k * 2, none⟩ = false := h2.frozen (k * 2)
      have hex := HEX.out k hlt
      have HSET := Lib.hid (spA_setName (nmK k) (fun _ => .pointer none) k hlt (sn k))
      have i0 : (0 : Int) ≤ (k : Int) := by omega
      have i1 : (k : Int) < 19 := by omega
      gi_wp2
      refine regionIn_tail (F := Fence.wide) (C := fun w' => w' = wr.drew) 9 rfl (by kernel_rfl) (by kernel_rfl) rfl ?_
      simp only [List.take_succ_cons, List.take_zero, List.drop_succ_cons, List.drop_zero]
      repeat (gi_big_quiet_step (fail))
      refine wpQuietIn_nil ?_
      intro w' hw'
      subst hw'
      have d1 := h1.far (p := ⟨w.heap.size + 1, k * 2, none⟩) (by simp) (.string (sn k))
      have d2 := h2.set (k * 2) (.string (sn k))
      have d3 := h3.far (p := ⟨w.heap.size + 1, k * 2, none⟩) (by simp) (.string (sn k))
      rw [HSET.out, nmK_succ] at d2
      clear h1 h2 h3
      gi_wp2
      go_roundw
      case rel => exact ⟨k + 1, by omega, by go_num, d1, d2, d3, by (repeat' (first | (with_reducible exact Below.refl _ _) | (with_reducible assumption) | (with_reducible refine Below.alloc ?_ ?_ _) | (with_reducible refine Below.drew ?_) | (with_reducible refine Below.setCell ?_ ?_ _) | (with_reducible exact Nat.le_refl _) | omega | ((repeat (first | rewrite [World.size_alloc] | rewrite [World.size_setCell] | rewrite [World.size_drew])); omega) | (simp; omega) | (simp; done)))⟩
      case measure => simp [RowKit.intOf]; omega
    · have hk19 : k = 19 := by omega
      have HNE := Lib.hid (fun p (hp : p < 9) => sx_lt hf hp)
      rw [hk19] at h2
      have HK := Lib.hid hk19
      clear hk19
      have hs1 := h1.lt
      have hs2 := h2.lt
      have hs3 := h3.lt
      gi_wp2
      refine range_law (F := Fence.wide) (gf := 56) (lf := #[.int .i64 9]) (lb := #[]) rfl (by decide) rfl trivial (fun args w => rfl) (encs := fun p : Nat => #[.int .i64 p]) (xs := List.range 9)
        (below_iter _ _ trivial rfl (by decide)) (fun _ => rfl)
        (fun pre W => At W w.heap.size 65 (tabA f) ∧ At W (w.heap.size + 1) 140 (spA (nmK 19) (srcK f (w.heap.size + 1) pre.length)) ∧ At W (w.heap.size + 2) 81 #[.pointer (some ⟨w.heap.size + 1, 0, none⟩)] ∧ Below w.heap.size w W)
        (fun _ _ _ => False) ?own (fun _ => ownFrom_pure _ _) ?start ?a1 ?assign ?body ?done ?stop
      case own =>
        rintro s A A' row ⟨q1, q2, q3, q4⟩ hg hr
        have hr' : ∀ r, row = some r → w.heap.size + 3 ≤ r := fun r e => by have := (hr r e).1; omega
        refine ⟨(hg.block _ q1.lt (fun e => ?_)).trans q1, (hg.block _ q2.lt (fun e => ?_)).trans q2, (hg.block _ q3.lt (fun e => ?_)).trans q3, q4.trans (below_grown hg q4.size (fun g e => ?_))⟩
        · have := hr' _ e.symm; omega
        · have := hr' _ e.symm; omega
        · have := hr' _ e.symm; omega
        · have := hr' _ e; omega
      case start => exact ⟨h1, by rw [List.length_nil, srcK_zero]; exact h2, h3, hb⟩
      case assign =>
        intro l p W Kc hK
        gi_wp2
        exact hK
      case body =>
        rintro l pre p W ⟨q1, q2, q3, q4⟩ hp hsz
        obtain ⟨hl, hp9⟩ := pre_len pre p hp
        rw [hl] at q2
        have HL : Hid ((pre ++ [p]).length = p + 1) := by show _ = _; simp [hl]
        have HSRC := Lib.hid (fun W => source_c f p hp9 W)
        have hsx := (HNE.out p hp9).1
        have HSN : Hid (srcT f p = sn (sx f p)) := (HNE.out p hp9).2.symm
        have HNM : Hid (nm p = sn p) := (sn_nm p hp9).symm
        have HYES := Lib.hid (nxT_some (f := f) hp9)
        have HSTAY := Lib.hid (nxT_stay (f := f) hp9)
        have HS1 := Lib.hid (srcK_succ f (w.heap.size + 1) p)
        have HS2 := Lib.hid (srcK_same f (w.heap.size + 1) p)
        have HSET := Lib.hid (spA_setSrc (nmK 19) (srcK f (w.heap.size + 1) p) p (by omega))
        have hpos := fun W => positionIn_yes ⟨#[97, 98, 99, 100, 101, 102, 65, 66, 67, 48, 49, 50, 51, 52, 53, 54, 55, 56, 57]⟩ (ch (sx f p)) (sx f p) (ch_all _ hsx).1 W
        have HPOS := Lib.hid hpos
        have c0 : W.cell? ⟨w.heap.size, 0, none⟩ = some (.string (f 0)) := q1.cell 0
        have c1 : W.cell? ⟨w.heap.size, 1, none⟩ = some (.string (f 1)) := q1.cell 1
        have c2 : W.cell? ⟨w.heap.size, 2, none⟩ = some (.string (f 2)) := q1.cell 2
        have c3 : W.cell? ⟨w.heap.size, 3, none⟩ = some (.string (f 3)) := q1.cell 3
        have c4 : W.cell? ⟨w.heap.size, 4, none⟩ = some (.string (f 4)) := q1.cell 4
        have c5 : W.cell? ⟨w.heap.size, 5, none⟩ = some (.string (f 5)) := q1.cell 5
        have c6 : W.cell? ⟨w.heap.size, 6, none⟩ = some (.string (f 6)) := q1.cell 6
        have c7 : W.cell? ⟨w.heap.size, 7, none⟩ = some (.string (f 7)) := q1.cell 7
        have c8 : W.cell? ⟨w.heap.size, 8, none⟩ = some (.string (f 8)) := q1.cell 8
        clear hpos hl hf
        gi_wp2
        refine ⟨trivial, ?_⟩
        refine CallsIn.inRound l (callsIn_wide.2 ((HSRC.out W).mono ?_))
        rintro e W2 ⟨rfl, hb2⟩
        rw [HSN.out]
        have hz4 := q4.size
        have k1 := q1.keep hb2
        have k2 := q2.keep hb2
        have k3 := q3.keep hb2
        have k4 : Below w.heap.size w W2 := q4.trans (hb2.mono hz4)
        have kf := keepsFrom_below (B := wr.heap.size) hb2
        have kz := hb2.size
        clear c0 c1 c2 c3 c4 c5 c6 c7 c8 q1 q2 q3 q4 hb2
        have hone : sn (sx f p) = ⟨#[ch (sx f p)]⟩ := rfl
        by_cases hst : sx f p = p
        · have hnx := HSTAY.out hst
          have e1 : srcK f (w.heap.size + 1) p = srcK f (w.heap.size + 1) (p + 1) := HS2.out hnx
          rw [hst]
          rw [e1] at k2
          have HNM2 := Lib.hid (fun W => name_c p hp9 W)
          have hb1 : ((sn p).toList == (sn p).toList) = true := by simp
          gi_wp2
          refine ⟨trivial, CallsIn.inRound l (callsIn_wide.2 ((HNM2.out _).mono ?_))⟩
          rintro e wq ⟨rfl, rfl⟩
          rw [HNM.out]
          gi_wp2
          exact ⟨kf, KeepsIn.zero kz, k1, by rw [HL.out]; exact k2, k3, k4⟩
        · have hnx := HYES.out hst
          have e1 := HSET.out (spotV (w.heap.size + 1) (nxT f p))
          rw [HS1.out, hnx] at e1
          have E1 := Lib.hid e1
          have HNM2 := Lib.hid (fun W => name_c p hp9 W)
          have hb1 : ((sn (sx f p)).toList == (sn p).toList) = false := by
            rw [beq_str, decide_eq_false_iff_not]
            exact fun e => hst (sn_inj hsx (by omega) e)
          clear e1 hone hnx
          have HOLD := Lib.hid ((k2.cell (p * 2 + 1)).trans (spA_src (nmK 19) (srcK f (w.heap.size + 1) p) p (by omega)))
          generalize sx f p = j at *
          gi_wp2
          refine ⟨trivial, CallsIn.inRound l (callsIn_wide.2 ((HNM2.out _).mono ?_))⟩
          rintro e wq ⟨rfl, rfl⟩
          rw [HNM.out]
          gi_wp2
          refine ⟨trivial, CallsIn.inRound l (callsIn_wide.2 ((HPOS.out _).mono ?_))⟩
          rintro e wq ⟨rfl, rfl⟩
          have c3 : W2.drew.cell? ⟨w.heap.size + 2, 0, none⟩ = some (.pointer (some ⟨w.heap.size + 1, 0, none⟩)) := k3.cell 0
          have cq : W2.drew.cell? ⟨w.heap.size + 1, p * 2 + 1, none⟩ = some (srcK f (w.heap.size + 1) p p) := HOLD.out
          have fq : W2.drew.frozen? ⟨w.heap.size + 1, p * 2 + 1, none⟩ = false := k2.frozen _
          have l2 := k2.lt
          have i0 : (0 : Int) ≤ (p : Int) := by omega
          have i1 : (p : Int) < 19 := by omega
          have i2 : (0 : Int) ≤ (j : Int) := by omega
          have i3 : (j : Int) < 19 := by omega
          gi_wp2
          refine region_tail_inRound (F := Fence.wide) (C := fun w' => w' = W2.drew) 9 rfl (by kernel_rfl) (by kernel_rfl) (by kernel_rfl) rfl ?_
          simp only [List.take_succ_cons, List.take_zero, List.drop_succ_cons, List.drop_zero]
          repeat (gi_big_quiet_step (fail))
          refine wpQuietIn_nil ?_
          intro w' hw'
          subst hw'
          clear c3 hb1
          gi_wp2
          have d1 := k1.far (p := ⟨w.heap.size + 1, p * 2 + 1, none⟩) (by simp) (.pointer (some ⟨w.heap.size + 1, j * 2, none⟩))
          have d2 := k2.set (p * 2 + 1) (.pointer (some ⟨w.heap.size + 1, j * 2, none⟩))
          have d3 := k3.far (p := ⟨w.heap.size + 1, p * 2 + 1, none⟩) (by simp) (.pointer (some ⟨w.heap.size + 1, j * 2, none⟩))
          have d4 := k4.setCell (p := ⟨w.heap.size + 1, p * 2 + 1, none⟩) (by simp) (.pointer (some ⟨w.heap.size + 1, j * 2, none⟩))
          have e2 := E1.out
          rw [show spotV (w.heap.size + 1) (some j) = .pointer (some ⟨w.heap.size + 1, j * 2, none⟩) from rfl] at e2
          rw [e2] at d2
          refine ⟨(kf.trans ((KeepsOthers.setCell _ _ _).from _)).trans ((KeepsOthers.drew _).from _), KeepsIn.zero (by simp [World.size_setCell, World.size_drew]; exact kz), d1, by rw [HL.out]; exact d2, d3, d4.drew⟩
      case done =>
        intro D W hD hI hd
        obtain ⟨q1, q2, q3, q4⟩ := hI
        have hDD : w.heap.size + 3 ≤ D := by omega
        have l2 := q2.lt
        have q2' : At W (w.heap.size + 1) 140 (spA (nmK 19) (srcK f (w.heap.size + 1) 9)) := q2
        have c3 : W.cell? ⟨w.heap.size + 2, 0, none⟩ = some (.pointer (some ⟨w.heap.size + 1, 0, none⟩)) := q3.cell 0
        have HSP : Hid (Spots (W.putObj D (.deferred none)) (w.heap.size + 1) (nxT f)) := by
          have hA : At (W.putObj D (.deferred none)) (w.heap.size + 1) 140 (spA (nmK 19) (srcK f (w.heap.size + 1) 9)) := (World.putObj_heap_other (by omega)).trans q2'
          refine ⟨⟨_, _, hA⟩, fun i hi => ?_, fun i hi => ?_⟩
          · rw [hA.cell, spA_name _ _ i hi]; simp [nmK, hi]
          · rw [hA.cell, spA_src _ _ i hi]
            by_cases h9 : i < 9
            · simp [srcK, h9]
            · simp [srcK, h9, nxT_digit h9, spotV]
        clear q2
        gi_wp2
        refine ⟨by simp, .inl ⟨D, _, rfl, run_takeDeferred hd, ?_⟩⟩
        refine ⟨_, results_tmp rfl _ _ _, ⟨_, rfl, by omega, HSP.out⟩, ?_⟩
        exact q4.trans ⟨rfl, rfl, rfl, by simp [World.putObj], fun k hk => World.putObj_heap_other (by omega)⟩
      case stop =>
        intro _ _ _ _ _ _ hff
        exact hff.elim
end Go.Proofs.YtfedloljhocpgaaGreatDoor
namespace Go.PM
open Go.RowKit
variable {F : Fence} {n : Nat} {P : Program}
def IterW {α : Type} (Pr : World → Prop) (κ : Nat) (F : Fence) (n : Nat) (P : Program) (gf : Nat) (mk : Value → Array Value) (encs : α → Array Value) (xs : List α) : Prop :=
  ∀ (l : Nat) (J Jx : List α → World → Prop) (W : World),
    OwnFrom W.heap.size J → OwnFrom W.heap.size Jx → (∀ pre A, J pre A → Pr A) → (∀ pre A A' r, J pre A → W.heap.size ≤ r → r < W.heap.size + κ → A.grownBy A' (some r) → J pre A') →
    (∀ pre x A, J pre A → W.heap.size + κ ≤ A.heap.size → pre ++ [x] <+: xs → YieldAt F (n - 1) P l (encs x) A fun e A' =>
      (e = .returned (.bool true) ∧ J (pre ++ [x]) A' ∧ KeepsIn W.heap.size κ A A' ∧ KeepsFrom W.heap.size A A') ∨ (e = .returned (.bool false) ∧ Jx (pre ++ [x]) A' ∧ A.heap.size ≤ A'.heap.size ∧ KeepsFrom W.heap.size A A')) →
    J [] W →
    CallsIn F n P gf (mk (.func (.yield l) #[] #[])) W fun e W' => (∃ v, e = .returned v) ∧ (J xs W' ∨ ∃ pre, pre <+: xs ∧ Jx pre W')
theorem range_law4 {α : Type} {Pr : World → Prop} {g : Operand} {ps : Array Tmp} {assign body : Code} {Q : Exit → Act → World → Prop} {a : Act} {w : World} (hro : F.round = none) (h1 : 1 ≤ n)
    {gf : Nat} {lf lb : Array Value} (hg : a.eval g = .func (.func gf) lf lb) (hFg : F.fn gf) (eg : ∀ args w, (callFunc gf args).run P w = .ok (.enter gf args) w)
    {encs : α → Array Value} {xs : List α} {κ : Nat} (hit : IterW Pr κ F (n - 1) P gf (fun y => lf ++ #[y] ++ lb) encs xs) (hps : ∀ x, (encs x).size = ps.size)
    (I : List α → World → Prop) (Ix : Code → List α → World → Prop) (hPr : ∀ pre A, I pre A → Pr A) (hIW : ∀ pre A A' r, I pre A → w.heap.size + 2 ≤ r → r < w.heap.size + 2 + κ → A.grownBy A' (some r) → I pre A') (hI : OwnFrom w.heap.size I) (hIx : ∀ c, OwnFrom w.heap.size (Ix c)) (h0 : I [] w) (Ax : α → Act → World → Prop) (hAx : ∀ x a', OwnFrom w.heap.size (fun (_ : Unit) W => Ax x a' W))
    (hassign : ∀ (l : Nat) (pre : List α) (x : α) (W : World) (K : Act → World → Prop), I pre W → pre ++ [x] <+: xs → w.heap.size + 2 + κ ≤ W.heap.size → (∀ a' W', KeepsNew w.heap.size W W' → I pre W' → Ax x a' W' → K a' W') →
      assign.wpIn (F.inRound l) (n - 1 - 1) P (Exit.then K (fun _ _ _ => False)) { tmps := (ps.zip (encs x)).foldl (fun t (p, v) => t.setIfInBounds p v) a.tmps, defers := [] } W)
    (hbody : ∀ (l : Nat) (pre : List α) (x : α) (a' : Act) (W : World), I pre W → Ax x a' W → pre ++ [x] <+: xs → w.heap.size + 2 + κ ≤ W.heap.size → body.wpIn (F.inRound l) (n - 1 - 1) P (ownPostG w.heap.size (KeepsIn (w.heap.size + 2) κ) I Ix (pre ++ [x]) W) a' W)
    (hdone : ∀ (D : Nat) (W : World), w.heap.size ≤ D → I xs W → W.heap[D]? = some (.deferred (some [])) → Q .normal { a with defers := { target := .collected D, args := #[] } :: a.defers } W)
    (hstop : ∀ (D : Nat) (c : Code) (pre : List α) (W : World), w.heap.size ≤ D → pre <+: xs → Ix c pre W → W.heap[D]? = some (.deferred (some [])) → c.wpIn F n P Q { a with defers := { target := .collected D, args := #[] } :: a.defers } W) :
    (Code.rangeFunc g ps assign body).wpIn F n P Q a w := by
  refine wpIn_rangeFunc fun fn hfn => ?_
  rw [hro]
  have key : ∃ rc : LoopState → Option Code → Loop, rc = fun s j => { state := s, pending := j, fn, tmps := a.tmps, params := ps, assign, body, defers := w.heap.size } := ⟨_, rfl⟩
  obtain ⟨rc, hrc⟩ := key
  let V := (w.alloc (.deferred (some []))).alloc (.loop (rc .ready none))
  -- the two blocks of book-keeping, and that the caller's own facts outlast what is done to them
  let Bk : LoopState → Option Code → World → Prop := fun s j A => A.heap[w.heap.size + 1]? = some (.loop (rc s j)) ∧ A.heap[w.heap.size]? = some (.deferred (some []))
  have bkput : ∀ {s j s' j' A}, Bk s j A → Bk s' j' (A.putObj (w.heap.size + 1) (.loop (rc s' j'))) := fun h =>
    ⟨World.putObj_heap_same (Array.getElem?_eq_some_iff.1 h.1).1, (World.putObj_heap_other (by omega)).trans h.2⟩
  have hVs : V.heap.size = w.heap.size + 2 := by simp [V, World.size_alloc]
  have bknew : ∀ {s j A A' row}, Bk s j A → A.grownBy A' row → (∀ r, row = some r → V.heap.size ≤ r ∧ ∃ o : Obj, A.heap[r]? = some o ∧ o.isCells = false) → Bk s j A' := fun h hg' hr =>
    ⟨(hg'.block _ (Array.getElem?_eq_some_iff.1 h.1).1 (fun e => by have := (hr _ e.symm).1; omega)).trans h.1, (hg'.block _ (Array.getElem?_eq_some_iff.1 h.2).1 (fun e => by have := (hr _ e.symm).1; omega)).trans h.2⟩
  have hV : Bk .ready none V := by
    refine ⟨?_, ?_⟩
    · have := World.alloc_heap_new (w.alloc (.deferred (some []))) (.loop (rc .ready none)); rwa [World.size_alloc] at this
    · exact (Below.heap_alloc _ _ _ (by simp)).trans (World.alloc_heap_new w _)
  have hIV : I [] V := hI.alloc _ (hI.alloc _ h0)
  refine ⟨w.heap.size + 1, [{ target := .collected w.heap.size, args := #[] }], V, { target := .fn (.func gf) lb, args := lf ++ #[.func (.yield (w.heap.size + 1)) #[] #[]] }, V, gf,
    lf ++ #[.func (.yield (w.heap.size + 1)) #[] #[]] ++ lb, V, ?_, ?_, ?_, ?_, fun _ => h1, ?_⟩
  · have := run_enterLoop_outer (P := P) (w := w) fn a.tmps ps assign body
    rw [this]; simp only [V, hrc]
  · simp only [resolve, hg]
    simp [go_sem]
  · intro f' hf'
    simp [Target.leads] at hf'
    subst hf'; exact hFg
  · simp [invoke, go_sem, eg]
  refine (hit (w.heap.size + 1) (fun pre A => I pre A ∧ Bk .ready none A) (fun pre A => ∃ c, Ix c pre A ∧ Bk .done (some c) A) V
    (fun pre A A' row h hg' hr => ⟨hI pre A A' row h.1 hg' (fun r e => ⟨by have := (hr r e).1; omega, (hr r e).2⟩), bknew h.2 hg' hr⟩)
    (fun pre A A' row ⟨c, h, hb⟩ hg' hr => ⟨c, hIx c pre A A' row h hg' (fun r e => ⟨by have := (hr r e).1; omega, (hr r e).2⟩), bknew hb hg' hr⟩) (fun pre A h => hPr pre A h.1) (fun pre A A' r h h1 h2 hg' => ⟨hIW pre A A' r h.1 (by omega) (by omega) hg', (hg'.block _ (Array.getElem?_eq_some_iff.1 h.2.1).1 (fun e => by cases e; omega)).trans h.2.1, (hg'.block _ (Array.getElem?_eq_some_iff.1 h.2.2).1 (fun e => by cases e; omega)).trans h.2.2⟩) ?_ ⟨hIV, hV⟩).mono ?_
  · rintro pre x A ⟨hi, hb⟩ hsz hpx
    have hy := run_yield (P := P) (args := encs x) hb.1 (by rw [hrc]; exact hps x)
    rw [hrc] at hy
    refine ⟨fn, _, assign, body, hy, roundIn_of_wpIn hfn (hassign _ pre x A _ hi hpx (by omega) ?_)⟩
    intro a' Wa hkn hia hax
    have hlt := (Array.getElem?_eq_some_iff.1 hb.1).1
    replace hb : Bk .ready none Wa := ⟨(hkn.same _ (by omega) hlt).trans hb.1, (hkn.same _ (Nat.le_refl _) (by omega)).trans hb.2⟩
    clear hy hi
    refine ⟨_, run_beginRound hb.1 (by rw [hrc]), ?_⟩
    have hknV : KeepsIn V.heap.size κ A Wa := hkn.toIn (by omega) hsz
    have hkfV : KeepsFrom V.heap.size A Wa := (hkn.mono (by omega)).from
    have hszA : A.heap.size ≤ Wa.heap.size := hkn.size
    replace hsz := Nat.le_trans hsz hszA
    clear hkn
    revert hknV hkfV hszA
    generalize A = A0
    intro hknV hkfV hszA
    obtain ⟨A, rfl⟩ : ∃ A, A = Wa := ⟨_, rfl⟩
    have hb2 : Bk .busy none (A.putObj (w.heap.size + 1) (.loop (rc .busy none))) := bkput hb
    have e2 : ({ rc .ready none with state := .busy } : Loop) = rc .busy none := by rw [hrc]
    rw [e2]
    refine wpIn_mono (hbody _ pre x a' _ (hI.putObj _ hia (by omega) hb.1 rfl) ((hAx x a').putObj (s := ()) _ hax (by omega) hb.1 rfl) hpx (by simp [World.putObj]; omega)) ?_
    have fin : ∀ (j : Option Code) (C : World), KeepsFrom w.heap.size (A.putObj (w.heap.size + 1) (.loop (rc .busy none))) C →
        (Instr.endRound (w.heap.size + 1) j).run P C = .ok (.bool j.isNone) (C.putObj (w.heap.size + 1) (.loop (rc (if j.isNone then .ready else .done) j))) ∧ Bk .busy none C := fun j C hk => by
      have h1 := hk.same _ _ (by omega) hb2.1 rfl
      have h2 := hk.same _ _ (Nat.le_refl _) hb2.2 rfl
      have h3 := run_endRound (P := P) j h1
      refine ⟨?_, h1, h2⟩
      rw [h3]; rw [hrc]
    have kfin : ∀ (o : Obj) (C : World), KeepsFrom w.heap.size (A.putObj (w.heap.size + 1) (.loop (rc .busy none))) C → KeepsFrom V.heap.size A0 (C.putObj (w.heap.size + 1) o) := fun o C hk => by
      refine hkfV.trans ?_
      refine ⟨by have := hk.size; simp [World.putObj] at this ⊢; omega, fun k x hk1 hk2 hk3 => ?_⟩
      rw [World.putObj_heap_other (by omega)]
      exact hk.same k x (by omega) (by rw [World.putObj_heap_other (by omega)]; exact hk2) hk3
    rintro e a3 C hp
    cases e with
    | normal =>
      obtain ⟨hk, hkn, hi3⟩ := hp
      obtain ⟨hr, hb3⟩ := fin none C hk
      refine ⟨_, _, hr, .inl ⟨rfl, ⟨hI.putObj _ hi3 (by omega) hb3.1 rfl, bkput hb3⟩, ?_, kfin _ C hk⟩⟩
      refine ⟨by have := hkn.size; simp [World.putObj] at this ⊢; omega, fun k hk1 hk2 => ?_⟩
      rw [World.putObj_heap_other (by omega), hkn.same k (by omega) (by omega), World.putObj_heap_other (by omega)]
      exact hknV.same k hk1 hk2
    | ret =>
      obtain ⟨hk, hi3⟩ := hp
      obtain ⟨hr, hb3⟩ := fin (some .ret) C hk
      exact ⟨_, _, hr, .inr ⟨rfl, ⟨.ret, (hIx _).putObj _ hi3 (by omega) hb3.1 rfl, bkput hb3⟩, by have := hk.size; simp [World.putObj] at this ⊢; omega, kfin _ C hk⟩⟩
    | exit id =>
      obtain ⟨hk, hi3⟩ := hp
      obtain ⟨hr, hb3⟩ := fin (some (.exit id)) C hk
      exact ⟨_, _, hr, .inr ⟨rfl, ⟨.exit id, (hIx _).putObj _ hi3 (by omega) hb3.1 rfl, bkput hb3⟩, by have := hk.size; simp [World.putObj] at this ⊢; omega, kfin _ C hk⟩⟩
    | goto t =>
      obtain ⟨hk, hi3⟩ := hp
      obtain ⟨hr, hb3⟩ := fin (some (.goto t)) C hk
      exact ⟨_, _, hr, .inr ⟨rfl, ⟨.goto t, (hIx _).putObj _ hi3 (by omega) hb3.1 rfl, bkput hb3⟩, by have := hk.size; simp [World.putObj] at this ⊢; omega, kfin _ C hk⟩⟩
    | panic ch => exact hp.elim
    | outgrown => exact hp.elim
  · rintro e C ⟨⟨v, rfl⟩, (⟨hi, hb⟩ | ⟨pre, hp, c, hi, hb⟩)⟩
    · have h3 := run_endLoop (P := P) hb.1 (by rw [hrc]; simp)
      refine ⟨none, _, by rw [h3, hrc], hdone _ _ (Nat.le_refl _) (hI.putObj _ hi (by omega) hb.1 rfl) ((World.putObj_heap_other (by omega)).trans hb.2)⟩
    · have h3 := run_endLoop (P := P) hb.1 (by rw [hrc]; simp)
      refine ⟨some c, _, by rw [h3, hrc], hstop _ c pre _ (Nat.le_refl _) hp ((hIx c).putObj _ hi (by omega) hb.1 rfl) ((World.putObj_heap_other (by omega)).trans hb.2)⟩
theorem range_law5 {α : Type} {Pr : World → Prop} {g : Operand} {ps : Array Tmp} {assign body : Code} {Q : Exit → Act → World → Prop} {a : Act} {w : World} (hro : F.round = none) (h1 : 1 ≤ n)
    {gf : Nat} {lf lb : Array Value} (hg : a.eval g = .func (.func gf) lf lb) (hFg : F.fn gf) (eg : ∀ args w, (callFunc gf args).run P w = .ok (.enter gf args) w)
    {encs : α → Array Value} {xs : List α} {κ : Nat} (hit : IterW Pr κ F (n - 1) P gf (fun y => lf ++ #[y] ++ lb) encs xs) (hps : ∀ x, (encs x).size = ps.size)
    (I : List α → World → Prop) (Ix : Code → List α → World → Prop) (hPr : ∀ pre A, I pre A → Pr A) (hIW : ∀ pre A A' r, I pre A → w.heap.size + 2 ≤ r → r < w.heap.size + 2 + κ → A.grownBy A' (some r) → I pre A') (hI : OwnFrom w.heap.size I) (hIx : ∀ c, OwnFrom w.heap.size (Ix c)) (h0 : I [] w) (a₁ : α → Act)
    (hassign : ∀ (l : Nat) (x : α) (W : World) (K : Act → World → Prop), K (a₁ x) W →
      assign.wpIn (F.inRound l) (n - 1 - 1) P (Exit.then K (fun _ _ _ => False)) { tmps := (ps.zip (encs x)).foldl (fun t (p, v) => t.setIfInBounds p v) a.tmps, defers := [] } W)
    (hbody : ∀ (l : Nat) (pre : List α) (x : α) (W : World), I pre W → pre ++ [x] <+: xs → w.heap.size + 2 + κ ≤ W.heap.size → body.wpIn (F.inRound l) (n - 1 - 1) P (ownPostG w.heap.size (KeepsIn (w.heap.size + 2) κ) I Ix (pre ++ [x]) W) (a₁ x) W)
    (hdone : ∀ (D : Nat) (W : World), w.heap.size ≤ D → I xs W → W.heap[D]? = some (.deferred (some [])) → Q .normal { a with defers := { target := .collected D, args := #[] } :: a.defers } W)
    (hstop : ∀ (D : Nat) (c : Code) (pre : List α) (W : World), w.heap.size ≤ D → pre <+: xs → Ix c pre W → W.heap[D]? = some (.deferred (some [])) → c.wpIn F n P Q { a with defers := { target := .collected D, args := #[] } :: a.defers } W) :
    (Code.rangeFunc g ps assign body).wpIn F n P Q a w :=
  range_law4 hro h1 hg hFg eg hit hps I Ix hPr hIW hI hIx h0 (fun x a' _ => a' = a₁ x) (fun _ _ _ _ _ _ h _ _ => h)
    (fun l _ x W K hi _ _ hK => hassign l x W K (hK _ _ (KeepsNew.refl _ _) hi rfl)) (fun l pre x a' W hi ha hp hs => by subst ha; exact hbody l pre x W hi hp hs) hdone hstop
end Go.PM
