import Derived.Test.YtnhncbhhlbcieaaGreatLawFWithFreeJA
import Derived.Laws.CopyOwn
import Derived.Outline
import Derived.Laws.EntriesVeiled
import Derived.Test.YtnhncbhhlbcieaaGreatNames
import Derived.Test.YtnhncbhhlbcieaaGreatSpS2
import Derived.Test.YtnhncbhhlbcieaaGreatNamesIn
import Derived.Test.YtnhncbhhlbcieaaGreatSource
import Derived.BigQuiet
import Derived.Test.YtnhncbhhlbcieaaGreatApp
import Derived.Test.YtnhncbhhlbcieaaGreatHold
import Derived.ChangeKeysEq
import Derived.Test.YtnhncbhhlbcieaaGreatColl
import Derived.Deep.RegionLaw
import Derived.Test.YtnhncbhhlbcieaaGreatDraw3
import Derived.Test.YtnhncbhhlbcieaaGreatDrawL3
import Derived.Test.YtnhncbhhlbcieaaGreatList
import Derived.Test.YtnhncbhhlbcieaaGreatSlI
import Derived.Test.YtnhncbhhlbcieaaGreatHar2
import Derived.Test.YtnhncbhhlbcieaaGreatSlS
namespace Go.PM
open Go.RowKit
section
variable {P : Program} {ops : Array Oper} {rest : List Oper} {o : Oper} {a : Act} {w : World} {Q : Exit → Act → World → Prop}
def bytesC (s : ByteArray) : Array Value := s.data.map fun b => .int .u8 b.toNat
theorem bytesC_size (s : ByteArray) : (bytesC s).size = s.size := by simp [bytesC]
/-- a string is copied over a whole row -/
theorem run_copy_text (dT sT ty elem : TypeId) (hu : P.underlying dT = some (.slice elem)) (hsz : (P.info? elem).map (·.size) = some 1) (b : Nat) (t : TypeId) (cur : Array Value) (hA : At w b t cur) (cap : Nat) (s : ByteArray) (hcur : cur.size = s.size) :
    (Builtin.copy_ #[dT, sT] ty #[.slice (some ⟨b, 0, none⟩) s.size cap, .string s]).run P w = .ok (goInt s.size) (w.setRow b (bytesC s)) := by
  have h1 : ∀ v ∈ (bytesC s).toList, v.oneCell' = true := by
    intro v hv
    simp [bytesC] at hv
    obtain ⟨x, _, rfl⟩ := hv
    rfl
  have hst := run_storeCells_at P b 0 t (bytesC s).toList 0 cur w hA (by simp [bytesC_size, hcur]) h1
  have e : (cur.toList.take (0 + 0) ++ (bytesC s).toList ++ cur.toList.drop (0 + 0 + (bytesC s).toList.length)).toArray = bytesC s := by
    have : cur.toList.drop (0 + 0 + (bytesC s).toList.length) = [] := by
      rw [List.drop_eq_nil_iff]; simp [bytesC_size, hcur]
    rw [this]; simp
  cases hq : P.info? elem with
  | none => simp [hq] at hsz
  | some i =>
    have hi : i.size = 1 := by simpa [hq] using hsz
    rw [e] at hst
    have hx : List.take s.size (List.map (fun b : UInt8 => Value.int .u8 (b.toNat : Int)) s.data.toList) = (bytesC s).toList := by
      rw [List.take_of_length_le (by simp)]
      simp [bytesC]
    unfold Builtin.copy_
    simp [run_underlying hu w, Builtin.lenOf, Builtin.firstCells, sizeOf, typeInfo, hq]
    rw [hx, hst]
    rfl
theorem cp_text (hgd : o.guard = none) (d s : Operand) (dT sT : TypeId) (ho : o.op = .call { callee := .builtin .copy, args := #[d, s], argTypes := #[dT, sT] }) (elem : TypeId) (hu : P.underlying dT = some (.slice elem)) (hsz : (P.info? elem).map (·.size) = some 1)
    (b : Nat) (t : TypeId) (cur : Array Value) (hA : At w b t cur) (cap : Nat) (x : ByteArray) (hd : a.eval d = .slice (some ⟨b, 0, none⟩) x.size cap) (hs : a.eval s = .string x) (hcur : cur.size = x.size)
    (h : ∀ w', At w' b t (bytesC x) → w.grownBy w' (some b) → wpList P ops Q rest (a.put o.dst (goInt x.size)) w') : wpList P ops Q (o :: rest) a w := by
  refine wpList_plain hgd fun K hK => ?_
  have hrun := run_copy_text (P := P) dT sT o.type elem hu hsz b t cur hA cap x hcur
  unfold Oper.wp
  simp [execOp, ho, resolve, invoke, builtin, hd, hs, hrun, Result.andThen]
  exact hK _ _ (h _ (At.setRow hA _) (grown_setRow _ _ _))
end
end Go.PM
namespace Go.PM
open Go.RowKit
def nmS : Nat → UInt8 := fun q => cellsL.getD q 0
theorem bytes_nmS : bytesC cellsB = stC nmS := by simp [bytesC, cellsB, stC, nmS, cellsL]
def wspS (f g : Nat → UInt8) : Nat → UInt8 := fun q => if q < 9 then f q else g q
end Go.PM
namespace Go.Proofs.YtnhncbhhlbcieaaGreat
open Go.RowKit Go.PM

end Go.Proofs.YtnhncbhhlbcieaaGreat
namespace Go.Proofs.YtnhncbhhlbcieaaGreat
open Go.RowKit Go.PM

end Go.Proofs.YtnhncbhhlbcieaaGreat
namespace Go.PM
open Go.RowKit
def aoP (t : Nat → ByteArray) (f : Nat → UInt8) (n : Nat) : Nat → UInt8 := fun q => if q < n then rdS f (srcT t q) else f q
theorem aoP_zero (t : Nat → ByteArray) (f : Nat → UInt8) : aoP t f 0 = f := by funext q; simp [aoP]
theorem aoP_nine (t : Nat → ByteArray) (f : Nat → UInt8) : aoP t f 9 = aoS t f := rfl
theorem aoP_succ (t : Nat → ByteArray) (f : Nat → UInt8) (p : Nat) : updS (aoP t f p) p (rdS f (srcT t p)) = aoP t f (p + 1) := by
  funext q
  unfold updS aoP
  by_cases h : q = p
  · subst h; simp
  · by_cases h2 : q < p
    · simp [h, h2, Nat.lt_succ_of_lt h2]
    · have : ¬ q < p + 1 := by omega
      simp [h, h2, this]
end Go.PM
namespace Go.Proofs.YtnhncbhhlbcieaaGreat
open Go.RowKit Go.PM
attribute [local go_sem] Oper.semAt_some

end Go.Proofs.YtnhncbhhlbcieaaGreat
namespace Go.PM
open Go.RowKit
theorem src_okC {xs : List Mv} (h : MV xs) : ∀ p, p < 9 → okC (srcT (tabOf xs) p) = true := by
  intro p hp
  rw [srcM_nm h hp]
  unfold srcM
  cases hf : xs.find? (fun m => decide (m.1 = nm p)) with
  | none =>
    show okC (nm p) = true
    unfold okC; rw [(cidx_nm hp).1]; rfl
  | some m =>
    have hm := List.mem_of_find?_eq_some hf
    have h1 := h.1 m hm
    unfold mok at h1; rw [Bool.and_eq_true] at h1
    exact isS_okC h1.2
def aoB (xs : List Mv) (s : ByteArray) : ByteArray := okS (mvalid xs && stateV s) (stB (aoS (tabOf xs) (ofB s)))
def ioB (xs : List St) (s : ByteArray) : ByteArray := okS (svalid xs && stateV s) (stB (runS xs xs.length (ofB s)))
theorem okS_yes (s : ByteArray) : okS true s = s := rfl
theorem okS_no (s : ByteArray) : okS false s = ⟨#[]⟩ := rfl
end Go.PM
namespace Go.Proofs.YtnhncbhhlbcieaaGreat
open Go.RowKit Go.PM

end Go.Proofs.YtnhncbhhlbcieaaGreat
namespace Go.Proofs.YtnhncbhhlbcieaaGreat
open Go.RowKit Go.PM

end Go.Proofs.YtnhncbhhlbcieaaGreat
namespace Go.PM
def sameAt (xs ys : List Mv) (p : Nat) : Bool := decide (srcM xs (nm p) = srcM ys (nm p))
def sameM (xs ys : List Mv) : Bool := mvalid xs && mvalid ys && (List.range 9).all (sameAt xs ys)
theorem sameM_no {xs ys : List Mv} (k : Nat) (hk : k < 9) (h : sameAt xs ys k = false) : sameM xs ys = false := by
  have : (List.range 9).all (sameAt xs ys) = false := by
    rw [List.all_eq_false]
    exact ⟨k, by simpa using hk, by rw [h]; decide⟩
  rw [sameM, this, Bool.and_false]
theorem sameM_all {xs ys : List Mv} (h : ∀ p, p < 9 → sameAt xs ys p = true) : sameM xs ys = (mvalid xs && mvalid ys) := by
  have : (List.range 9).all (sameAt xs ys) = true := by
    rw [List.all_eq_true]
    intro p hp
    exact h p (by simpa using hp)
  rw [sameM, this, Bool.and_true]
end Go.PM
namespace Go.Proofs.YtnhncbhhlbcieaaGreat
open Go.RowKit Go.PM

end Go.Proofs.YtnhncbhhlbcieaaGreat
namespace Go.PM
open Go.RowKit
/-- the moves that give each place its value in a state -/
def effA (g : Nat → UInt8) (p : Nat) : Mv := (nm p, ⟨#[g p]⟩)
def effL (g : Nat → UInt8) (k : Nat) : List Mv := (List.range k).map (effA g)
theorem effL_succ (g : Nat → UInt8) (k : Nat) : effL g (k + 1) = effL g k ++ [effA g k] := by simp [effL, List.range_succ]
theorem effL_len (g : Nat → UInt8) (k : Nat) : (effL g k).length = k := by simp [effL]
theorem effL_at (g : Nat → UInt8) (n k : Nat) (h : k < (effL g n).length) : (effL g n)[k] = effA g k := by simp [effL]
theorem effL_take (g : Nat → UInt8) (n k : Nat) (h : k ≤ n) : (effL g n).take k = effL g k := by
  simp only [effL, ← List.map_take, List.take_range]
  rw [Nat.min_eq_left h]
theorem nms_nodup : ((List.range 9).map nm).Nodup := by decide +kernel
theorem effL_MV (g : Nat → UInt8) : MV (effL g 9) ↔ ∀ p, p < 9 → isS ⟨#[g p]⟩ = true := by
  constructor
  · intro h p hp
    have := h.1 (effA g p) (List.mem_map.2 ⟨p, by simpa using hp, rfl⟩)
    unfold mok at this; rw [Bool.and_eq_true] at this
    exact this.2
  · intro h
    refine ⟨fun m hm => ?_, ?_⟩
    · obtain ⟨p, hp, rfl⟩ := List.mem_map.1 hm
      have hp9 : p < 9 := by simpa using hp
      unfold mok effA
      rw [isP_nm hp9, h p hp9]; rfl
    · have : (effL g 9).map (·.1) = (List.range 9).map nm := by simp [effL, effA]
      rw [this]; exact nms_nodup
def effG (xs : List St) : Nat → UInt8 := runS xs xs.length nmS'
where nmS' : Nat → UInt8 := fun q => cellsL.getD q 0
def effOk (xs : List St) : Bool := svalid xs && mvalid (effL (effG xs) 9)
def effM (xs : List St) : List Mv := if effOk xs then busyM (effL (effG xs) 9) else []
theorem effM_yes {xs : List St} (h : effOk xs = true) : effM xs = busyM (effL (effG xs) 9) := if_pos h
theorem effM_no {xs : List St} (h : effOk xs = false) : effM xs = [] := if_neg (by rw [h]; decide)
theorem effOk_no {xs : List St} (p : Nat) (hp : p < 9) (h : isS ⟨#[effG xs p]⟩ = false) : effOk xs = false := by
  have : mvalid (effL (effG xs) 9) = false := by
    simp only [mvalid, decide_eq_false_iff_not, effL_MV]
    intro h2
    rw [h2 p hp] at h; cases h
  rw [effOk, this, Bool.and_false]
theorem effOk_yes {xs : List St} (hv : svalid xs = true) (h : ∀ p, p < 9 → isS ⟨#[effG xs p]⟩ = true) : effOk xs = true := by
  have : mvalid (effL (effG xs) 9) = true := by
    simp only [mvalid, decide_eq_true_eq, effL_MV]; exact h
  rw [effOk, this, hv]; rfl
theorem busyE_zero (g : Nat → UInt8) : busyM (effL g 0) = [] := rfl
theorem busyE_succ (g : Nat → UInt8) (k : Nat) : busyM (effL g (k + 1)) = if (⟨#[g k]⟩ : ByteArray) = nm k then busyM (effL g k) else busyM (effL g k) ++ [effA g k] := by
  unfold busyM
  rw [effL_succ, List.filter_append]
  by_cases h : (⟨#[g k]⟩ : ByteArray) = nm k
  · simp [effA, h]
  · have : ¬ nm k = (⟨#[g k]⟩ : ByteArray) := fun e => h e.symm
    simp [effA, h, this]
theorem busyE_le (g : Nat → UInt8) (k : Nat) : (busyM (effL g k)).length ≤ k := by
  have := busyM_le (effL g k)
  rw [effL_len] at this; exact this
theorem stB_names : stB (fun q => cellsL.getD q 0) = cellsB := rfl
end Go.PM
namespace Go.Proofs.YtnhncbhhlbcieaaGreat
open Go.RowKit Go.PM

end Go.Proofs.YtnhncbhhlbcieaaGreat
namespace Go.PM
open Go.RowKit
theorem srcM_nil (a : ByteArray) : srcM [] a = a := rfl
theorem srcM_cons (m : Mv) (xs : List Mv) (a : ByteArray) : srcM (m :: xs) a = if m.1 = a then m.2 else srcM xs a := by
  unfold srcM
  rw [List.find?_cons]
  by_cases h : m.1 = a <;> simp [h]
theorem srcM_none {xs : List Mv} {a : ByteArray} (h : a ∉ xs.map (·.1)) : srcM xs a = a := by
  unfold srcM
  have : xs.find? (fun m => decide (m.1 = a)) = none := by
    rw [List.find?_eq_none]
    intro m hm e
    exact h (List.mem_map.2 ⟨m, hm, by simpa using e⟩)
  rw [this]; rfl
theorem srcM_busy : ∀ (xs : List Mv) (a : ByteArray), (xs.map (·.1)).Nodup → srcM (busyM xs) a = srcM xs a
  | [], _, _ => rfl
  | m :: xs, a, h => by
    rw [List.map_cons, List.nodup_cons] at h
    have ih := srcM_busy xs a h.2
    by_cases he : m.1 = m.2
    · have e : busyM (m :: xs) = busyM xs := by simp [busyM, he]
      rw [e, ih, srcM_cons]
      by_cases hm : m.1 = a
      · rw [if_pos hm, ← he, hm]
        exact srcM_none (by rw [← hm]; exact h.1)
      · rw [if_neg hm]
    · have e : busyM (m :: xs) = m :: busyM xs := by simp [busyM, he]
      rw [e, srcM_cons, srcM_cons, ih]
theorem busyM_MV {xs : List Mv} (h : MV xs) : MV (busyM xs) :=
  ⟨fun m hm => h.1 m (List.mem_filter.1 hm).1, h.2.sublist (List.Sublist.map _ (List.filter_sublist ..))⟩
theorem find_nm : ∀ p, p < 9 → (List.range 9).find? (fun q => decide (nm q = nm p)) = some p := by
  intro p hp
  match p, hp with
  | 0, _ | 1, _ | 2, _ | 3, _ | 4, _ | 5, _ | 6, _ | 7, _ | 8, _ => decide +kernel
theorem srcM_effL (g : Nat → UInt8) (p : Nat) (hp : p < 9) : srcM (effL g 9) (nm p) = ⟨#[g p]⟩ := by
  unfold srcM effL
  rw [List.find?_map]
  have e : ((fun m : Mv => decide (m.1 = nm p)) ∘ effA g) = fun q => decide (nm q = nm p) := rfl
  rw [e, find_nm p hp]; rfl
def nmT : Nat → UInt8 := fun q => cellsL.getD q 0
theorem rd_name {a : ByteArray} (h : isS a = true) : (⟨#[rdS nmT a]⟩ : ByteArray) = a := by
  rcases Bool.eq_false_or_eq_true (isC a) with hc | hc
  · rw [rdS_cell hc]
    obtain ⟨c, rfl⟩ := one_of_size (isC_size hc)
    have h2 : c ∈ cellsL := by simpa [isC] using hc
    show (⟨#[cellsL.getD (cidx ⟨#[c]⟩) 0]⟩ : ByteArray) = _
    rw [(cidx_one h2).2.2]
  · rw [rdS_digit hc]; exact (fc_one (isS_size h)).symm
theorem srcM_isSr {xs : List Mv} (h : MV xs) (p : Nat) (hp : p < 9) : isS (srcM xs (nm p)) = true := by
  unfold srcM
  cases hf : xs.find? (fun m => decide (m.1 = nm p)) with
  | none => show isS (nm p) = true; unfold isS; rw [isP_nm hp]; rfl
  | some m =>
    have h1 := h.1 m (List.mem_of_find?_eq_some hf)
    unfold mok at h1; rw [Bool.and_eq_true] at h1
    exact h1.2
def irB (xs : List St) (ys : List Mv) : Bool := effOk xs && sameM (effM xs) ys
theorem one_inj {a b : UInt8} : (⟨#[a]⟩ : ByteArray) = ⟨#[b]⟩ ↔ a = b := by
  constructor
  · intro h
    have := congrArg (fun s : ByteArray => s.data.toList) h
    simpa using this
  · intro h; rw [h]
theorem irB_eq (xs : List St) (ys : List Mv) (h1 : svalid xs = true) (h2 : MV ys) :
    ((List.range 11).all fun p => decide ((if p < 9 then effG xs p else nmT p) = aoS (tabOf ys) nmT p)) = irB xs ys := by
  have m2 : mvalid ys = true := by simpa [mvalid] using h2
  have key : ∀ p, p < 9 → (effG xs p = aoS (tabOf ys) nmT p ↔ (⟨#[effG xs p]⟩ : ByteArray) = srcM ys (nm p)) := fun p hp => by
    unfold aoS
    rw [if_pos hp, srcM_nm h2 hp, ← one_inj, rd_name (srcM_isSr h2 p hp)]
  have e11 : ∀ P : Nat → Prop, (∀ p, p < 11 → P p) ↔ ((∀ p, p < 9 → P p) ∧ P 9 ∧ P 10) := fun P => by
    constructor
    · intro h; exact ⟨fun p hp => h p (by omega), h 9 (by omega), h 10 (by omega)⟩
    · rintro ⟨h, h9, h10⟩ p hp
      by_cases hp9 : p < 9
      · exact h p hp9
      · have : p = 9 ∨ p = 10 := by omega
        rcases this with rfl | rfl
        · exact h9
        · exact h10
  rw [Bool.eq_iff_iff, List.all_eq_true]
  have hl : (∀ p ∈ List.range 11, decide ((if p < 9 then effG xs p else nmT p) = aoS (tabOf ys) nmT p) = true) ↔ ∀ p, p < 9 → (⟨#[effG xs p]⟩ : ByteArray) = srcM ys (nm p) := by
    have : (∀ p ∈ List.range 11, decide ((if p < 9 then effG xs p else nmT p) = aoS (tabOf ys) nmT p) = true) ↔ ∀ p, p < 11 → (if p < 9 then effG xs p else nmT p) = aoS (tabOf ys) nmT p := by
      constructor
      · intro h p hp; simpa using h p (by simpa using hp)
      · intro h p hp; simpa using h p (by simpa using hp)
    rw [this, e11]
    constructor
    · rintro ⟨h, _, _⟩ p hp
      have := h p hp
      rw [if_pos hp] at this
      exact (key p hp).1 this
    · intro h
      refine ⟨fun p hp => ?_, ?_, ?_⟩
      · rw [if_pos hp]; exact (key p hp).2 (h p hp)
      · simp [aoS]
      · simp [aoS]
  rw [hl]
  unfold irB
  rcases Bool.eq_false_or_eq_true (effOk xs) with ho | ho
  · have hmv : MV (effL (effG xs) 9) := by
      unfold effOk at ho; rw [Bool.and_eq_true] at ho
      simpa [mvalid] using ho.2
    have m1 : mvalid (effM xs) = true := by rw [effM_yes ho]; simpa [mvalid] using busyM_MV hmv
    rw [ho, Bool.true_and, sameM, m1, m2, Bool.true_and, Bool.true_and, List.all_eq_true]
    have hk : ∀ p, p < 9 → srcM (effM xs) (nm p) = ⟨#[effG xs p]⟩ := fun p hp => by
      rw [effM_yes ho, srcM_busy _ _ hmv.2, srcM_effL _ p hp]
    constructor
    · intro h p hp
      have hp9 : p < 9 := by simpa using hp
      rw [sameAt, hk p hp9]; simpa using h p hp9
    · intro h p hp
      have := h p (by simpa using hp)
      rw [sameAt, hk p hp] at this; simpa using this
  · rw [ho, Bool.false_and]
    constructor
    · intro h
      have hmv : MV (effL (effG xs) 9) := (effL_MV _).2 fun p hp => by rw [h p hp]; exact srcM_isSr h2 p hp
      have : effOk xs = true := by rw [effOk, h1]; simpa [mvalid] using hmv
      rw [this] at ho; cases ho
    · intro h; cases h
end Go.PM
namespace Go.Proofs.YtnhncbhhlbcieaaGreat
open Go.RowKit Go.PM
attribute [local go_sem] Oper.semAt_some

theorem busyE_sizes (xs : List St) : (∀ m ∈ effM xs, m.1.size ≤ 9223372036854775807 ∧ m.2.size ≤ 9223372036854775807) ∧ (effM xs).length ≤ 9 := by
  rcases Bool.eq_false_or_eq_true (effOk xs) with h | h
  · rw [effM_yes h]
    refine ⟨fun m hm => ?_, busyE_le _ 9⟩
    have h2 := (List.mem_filter.1 hm).1
    obtain ⟨p, _, rfl⟩ := List.mem_map.1 h2
    exact ⟨by show (1 : Nat) ≤ _; omega, by show (1 : Nat) ≤ _; omega⟩
  · rw [effM_no h]
    exact ⟨by simp, by simp⟩

theorem eq_u8 (d : Nat) (a b : UInt8) (W : World) : (Op.equalIn (d + 1) 5 (.int .u8 a.toNat) (.int .u8 b.toNat)).run Tryz.prog W = .ok (decide (a = b)) W := by
  have : (((a.toNat : Int) == (b.toNat : Int))) = decide (a = b) := by
    rw [Bool.eq_iff_iff, beq_iff_eq, decide_eq_true_eq, ← UInt8.toNat_inj]; omega
  simp [Op.equalIn, go_sem, this]
theorem eqS_items (f g : Nat → UInt8) (W : World) : ∀ is : List Nat, (∀ i ∈ is, i < 11) → (Op.eqItems 9999 5 1 (stC f) (stC g) is).run Tryz.prog W = .ok (is.all fun p => decide (f p = g p)) W := by
  intro is
  induction is with
  | nil => intro _; rfl
  | cons i is ih =>
    intro h
    have hi := h i (List.mem_cons_self ..)
    have h1 : (part 5 (stC f) (i * 1)).run Tryz.prog W = .ok (.int .u8 (f i).toNat) W := run_part_plain (P := Tryz.prog) W (by kernel_rfl) (by rw [Nat.mul_one]; exact stC_at f i hi)
    have h2 : (part 5 (stC g) (i * 1)).run Tryz.prog W = .ok (.int .u8 (g i).toNat) W := run_part_plain (P := Tryz.prog) W (by kernel_rfl) (by rw [Nat.mul_one]; exact stC_at g i hi)
    have h3 := eq_u8 9998 (f i) (g i) W
    rw [Op.eqItems, Sem.run_bind, h1, Result.andThen_ok, Sem.run_bind, h2, Result.andThen_ok, Sem.run_bind, h3, Result.andThen_ok, List.all_cons]
    cases hb : decide (f i = g i)
    · rfl
    · rw [if_neg (by decide), ih (fun j hj => h j (List.mem_cons_of_mem _ hj)), Bool.true_and]

end Go.Proofs.YtnhncbhhlbcieaaGreat
namespace Go.PM
open Go.RowKit
def runM (ms : List Mv) (f : Nat → UInt8) : Nat → UInt8 := ms.foldl (fun g m => updS g (cidx m.1) (rdS g m.2)) f
theorem runM_cons (m : Mv) (ms : List Mv) (f : Nat → UInt8) : runM (m :: ms) f = runM ms (updS f (cidx m.1) (rdS f m.2)) := rfl
theorem runS_stL (ms : List Mv) (f : Nat → UInt8) : runS (stL ms) (stL ms).length f = runM ms f := by
  unfold runS runM stL
  rw [List.take_length, List.foldl_map]
  rfl
theorem spT_cell : isC spT = true ∧ cidx spT = 9 := by decide +kernel
/-- what a waiting move reads -/
def okR (a : ByteArray) : Prop := isP a = true ∨ isD a = true ∨ a = spT
theorem cidx_P {a : ByteArray} (h : isP a = true) : isC a = true ∧ cidx a < 9 ∧ nm (cidx a) = a := by
  have h1 := isP_isC h
  have h2 := pidx_spec h
  rw [h1.2]; exact ⟨h1.1, h2⟩
theorem rdS_ne {a b : ByteArray} (ha : okR a) (hb : isP b = true ∨ b = spT) (hne : a ≠ b) (f : Nat → UInt8) (v : UInt8) : rdS (updS f (cidx b) v) a = rdS f a := by
  have hc : isC a = true → cidx a ≠ cidx b := fun h e => by
    rcases ha with ha | ha | ha
    · rcases hb with hb | hb
      · have h1 := (cidx_P ha).2.2; have h2 := (cidx_P hb).2.2
        rw [e, h2] at h1; exact hne h1.symm
      · have h1 := (cidx_P ha).2.1
        rw [e, hb, spT_cell.2] at h1; omega
    · rw [isD_notC ha] at h; cases h
    · rcases hb with hb | hb
      · have h2 := (cidx_P hb).2.1
        rw [← e, ha, spT_cell.2] at h2; omega
      · exact hne (ha.trans hb.symm)
  unfold rdS
  rcases Bool.eq_false_or_eq_true (isC a) with h | h
  · rw [if_pos h, if_pos h, updS, if_neg (hc h)]
  · rw [if_neg (by rw [h]; decide), if_neg (by rw [h]; decide)]
theorem rdS_same {b : ByteArray} (hb : isP b = true ∨ b = spT) (f : Nat → UInt8) (v : UInt8) : rdS (updS f (cidx b) v) b = v := by
  have : isC b = true := by
    rcases hb with hb | hb
    · exact (cidx_P hb).1
    · rw [hb]; exact spT_cell.1
  rw [rdS_cell this, updS, if_pos rfl]
/-- each waiting move reads what its place is to get, and the other places have it -/
structure Due (T : Nat → UInt8) (ws : List Mv) (f : Nat → UInt8) : Prop where
  rd : ∀ m ∈ ws, rdS f m.2 = T (cidx m.1)
  has : ∀ p, p < 9 → nm p ∉ ws.map (·.1) → f p = T p
theorem Due.some_ {T : Nat → UInt8} {ws : List Mv} {f : Nat → UInt8} (h : Due T ws f) (hw : Wt ws) {i : Nat} (hi : i < ws.length) (hf : rdN ws ws[i].1 = 0) :
    Due T (redM ws[i] (ws.eraseIdx i)) (updS f (cidx ws[i].1) (rdS f ws[i].2)) := by
  have hm := List.getElem_mem hi
  have hp := hw.to_ _ hm
  have hz := rdN_zero.1 hf
  have key : ∀ x ∈ ws.eraseIdx i, rdS (updS f (cidx ws[i].1) (rdS f ws[i].2)) x.2 = T (cidx x.1) := fun x hx => by
    have hx1 := erase_mem hx
    rw [rdS_ne (hw.from_ x hx1) (.inl hp) (hz x hx1)]
    exact h.rd x hx1
  refine ⟨fun m' hm' => ?_, fun p hp9 hn => ?_⟩
  · unfold redM at hm'
    split at hm'
    · exact key m' hm'
    · obtain ⟨x, hx, e1, (⟨e2, e3⟩ | ⟨e2, e3⟩)⟩ := instM_mem hm'
      · rw [e3, rdS_same (.inl hp), e1, ← e2]
        exact h.rd x (erase_mem hx)
      · rw [e3]; exact key x hx
  · rw [redM_keys] at hn
    by_cases e : nm p = ws[i].1
    · have : cidx ws[i].1 = p := by rw [← e, (cidx_nm hp9).2]
      rw [this, updS, if_pos rfl, h.rd _ hm, this]
    · rw [updS, if_neg]
      · refine h.has p hp9 fun hk => ?_
        obtain ⟨x, hx, ex⟩ := List.mem_map.1 hk
        rcases erase_or hi hx with h1 | h1
        · exact e (by rw [← ex, h1])
        · exact hn (List.mem_map.2 ⟨x, h1, ex⟩)
      · intro e2
        exact e (by rw [e2]; exact (cidx_P hp).2.2)
theorem Due.none_ {T : Nat → UInt8} {ws : List Mv} {f : Nat → UInt8} (h : Due T ws f) (hw : Wt ws) (h0 : 0 < ws.length) (hn : aheadI ws = none) :
    Due T (redM (spT, ws[0].1) ws) (updS f (cidx spT) (rdS f ws[0].1)) := by
  obtain ⟨_, _, f3⟩ := hw.full hn
  have hz := rdN_zero.1 f3
  have hp := isP_cases (hw.to_ _ (List.getElem_mem h0))
  refine ⟨fun m' hm' => ?_, fun p hp9 hk => ?_⟩
  · unfold redM at hm'
    rw [if_neg (by show ¬ isD ws[0].1 = true; rw [hp.1]; decide)] at hm'
    obtain ⟨x, hx, e1, (⟨e2, e3⟩ | ⟨e2, e3⟩)⟩ := instM_mem hm'
    · rw [e3, rdS_same (.inr rfl), e1, ← h.rd x hx, e2]
    · rw [e3, rdS_ne (hw.from_ x hx) (.inr rfl) (hz x hx)]
      exact h.rd x hx
  · rw [redM_keys] at hk
    rw [updS, spT_cell.2, if_neg (by omega)]
    exact h.has p hp9 hk
theorem ordF_due {T : Nat → UInt8} : ∀ (n : Nat) (ws : List Mv) (f : Nat → UInt8), Wt ws → muW ws ≤ n → Due T ws f → ∀ p, p < 9 → runM (ordF n ws) f p = T p := by
  intro n
  induction n with
  | zero =>
    intro ws f _ hmu h p hp
    have : ws = [] := List.length_eq_zero_iff.1 (by unfold muW at hmu; omega)
    subst this
    exact h.has p hp (by simp)
  | succ n ih =>
    intro ws f hw hmu h p hp
    by_cases h0 : 0 < ws.length
    · cases ha : aheadI ws with
      | some i =>
        obtain ⟨hi, hf⟩ := aheadI_some ha
        rw [ordF_some hi ha, runM_cons]
        exact ih _ _ (hw.some_ hi hf) (by have := muW_some hi ws[i]; omega) (h.some_ hw hi hf) p hp
      | none =>
        rw [ordF_none h0 ha, runM_cons]
        exact ih _ _ (hw.none_ h0 ha).1 (by have := muW_none hw h0 ha; omega) (h.none_ hw h0 ha) p hp
    · have : ws = [] := List.length_eq_zero_iff.1 (by omega)
      subst this
      rw [ordF_nil]
      exact h.has p hp (by simp)
theorem ordF_ok : ∀ (n : Nat) (ws : List Mv), Wt ws → ∀ m ∈ ordF n ws, (isP m.1 = true ∨ m.1 = spT) ∧ okR m.2 := by
  intro n
  induction n with
  | zero => intro ws _ m hm; cases hm
  | succ n ih =>
    intro ws hw m hm
    by_cases h0 : 0 < ws.length
    · cases ha : aheadI ws with
      | some i =>
        obtain ⟨hi, hf⟩ := aheadI_some ha
        rw [ordF_some hi ha, List.mem_cons] at hm
        rcases hm with rfl | hm
        · exact ⟨.inl (hw.to_ _ (List.getElem_mem hi)), hw.from_ _ (List.getElem_mem hi)⟩
        · exact ih _ (hw.some_ hi hf) m hm
      | none =>
        rw [ordF_none h0 ha, List.mem_cons] at hm
        rcases hm with rfl | hm
        · exact ⟨.inr rfl, .inl (hw.to_ _ (List.getElem_mem h0))⟩
        · exact ih _ (hw.none_ h0 ha).1 m hm
    · have : ws = [] := List.length_eq_zero_iff.1 (by omega)
      subst this
      rw [ordF_nil] at hm; cases hm
theorem stOk_M {m : Mv} (h1 : isP m.1 = true ∨ m.1 = spT) (h2 : okR m.2) : stOk (stpM m) = true := by
  have a1 : isC m.1 = true := by
    rcases h1 with h | h
    · exact (cidx_P h).1
    · rw [h]; exact spT_cell.1
  have a2 : (isC m.2 || isD m.2) = true := by
    rcases h2 with h | h | h
    · rw [(cidx_P h).1]; rfl
    · rw [h, Bool.or_true]
    · rw [h]; decide +kernel
  unfold stOk stpM
  simp only [a1, a2]
  rfl
theorem svalid_stL {ms : List Mv} (hl : ms.length ≤ 60) (h : ∀ m ∈ ms, (isP m.1 = true ∨ m.1 = spT) ∧ okR m.2) : svalid (stL ms) = true := by
  unfold svalid
  rw [Bool.and_eq_true, decide_eq_true_eq, List.all_eq_true]
  refine ⟨by unfold stL; rw [List.length_map]; exact hl, fun x hx => ?_⟩
  obtain ⟨m, hm, rfl⟩ := List.mem_map.1 hx
  exact stOk_M (h m hm).1 (h m hm).2
/-- steps of moves that give each place its value are right -/
theorem right_of_run {ms xs : List Mv} (hv : svalid (stL ms) = true) (hx : MV xs) (h : ∀ p, p < 9 → runM ms nmT p = rdS nmT (srcM xs (nm p))) : irB (stL ms) xs = true := by
  rw [← irB_eq (stL ms) xs hv hx, List.all_eq_true]
  intro p hp
  rw [decide_eq_true_eq]
  by_cases h9 : p < 9
  · rw [if_pos h9, aoS, if_pos h9, srcM_nm hx h9]
    have := h p h9
    rw [← runS_stL] at this
    exact this
  · rw [if_neg h9, aoS, if_neg h9]
theorem busy_due {xs : List Mv} (_hx : MV xs) : Due (fun p => rdS nmT (srcM xs (nm p))) (busyF xs 9) nmT := by
  have hl : busyF xs 9 = lsF (fun p => srcM xs (nm p)) 9 := rfl
  refine ⟨fun m hm => ?_, fun p hp hn => ?_⟩
  · rw [hl] at hm
    obtain ⟨p, hp, _, rfl⟩ := lsF_mem hm
    show _ = rdS nmT (srcM xs (nm (cidx (nm p))))
    rw [(cidx_nm hp).2]
  · have : srcM xs (nm p) = nm p := by
      refine Classical.not_not.1 fun hne => hn ?_
      rw [hl]
      exact List.mem_map.2 ⟨(nm p, srcM xs (nm p)), List.mem_map.2 ⟨p, List.mem_filter.2 ⟨by simpa using hp, by simpa [lsH] using hne⟩, rfl⟩, rfl⟩
    show nmT p = rdS nmT (srcM xs (nm p))
    rw [this, rdS_nm nmT hp]
theorem busy_mu {xs : List Mv} : muW (busyF xs 9) ≤ 19 := by
  have := busyF_len xs 9
  unfold muW
  split <;> omega
theorem ordM_yes {xs : List Mv} (h : MV xs) : ordM xs = ordF 19 (busyF xs 9) := if_pos (by simpa [mvalid] using h)
theorem ordM_valid {xs : List Mv} (h : MV xs) : svalid (stL (ordM xs)) = true := by
  rw [ordM_yes h]
  exact svalid_stL (by have := ordF_len 19 (busyF xs 9); omega) (ordF_ok 19 _ (busyF_Wt h))
/-- the steps of an order do the moves -/
theorem ordM_right {xs : List Mv} (h : MV xs) : irB (stL (ordM xs)) xs = true := by
  refine right_of_run (ordM_valid h) h fun p hp => ?_
  rw [ordM_yes h]
  exact ordF_due 19 _ nmT (busyF_Wt h) busy_mu (busy_due h) p hp
end Go.PM
namespace Go.PD
open Go.PM Go.RowKit Go.Lib
theorem ordM_ok {xs : List Mv} (h : MV xs) : ∀ m ∈ ordM xs, (isP m.1 = true ∨ m.1 = spT) ∧ okR m.2 := by
  rw [ordM_yes h]; exact ordF_ok _ _ (busyF_Wt h)
theorem u_not {a : ByteArray} (h : okR a) : a ≠ spU := by
  intro e; subst e
  rcases h with h | h | h
  · revert h; decide
  · revert h; decide
  · revert h; decide
theorem ord_md {xs : List Mv} (h : mvalid xs = true) : mdB (stL (ordM xs)) = true := by
  have hx : MV xs := by simpa [mvalid] using h
  have hv := ordM_valid hx
  have hok := ordM_ok hx
  have hl : (ordM xs).length ≤ 19 := by rw [ordM_yes hx]; exact ordF_len _ _
  have hb : ∀ x ∈ stL (ordM xs), badX x = false := by
    intro x hxm
    unfold stL at hxm
    obtain ⟨m, hm, rfl⟩ := List.mem_map.1 hxm
    obtain ⟨h1, h2⟩ := hok m hm
    have e1 : m.1 ≠ spU := by
      rcases h1 with h1 | h1
      · exact u_not (.inl h1)
      · exact u_not (.inr (.inr h1))
    have e2 : m.2 ≠ spU := u_not h2
    unfold badX swF stpM
    simp [e1, e2]
  rw [md_good hb, hv, mkD_valid hv, Bool.true_and, decide_eq_true_eq]
  have := (mkD_len (stL (ordM xs))).2
  have e : (stL (ordM xs)).length = (ordM xs).length := by simp [stL]
  omega
def odS (xs : List Mv) : List St := if mvalid xs then mkD (stL (ordM xs)) else []
def cdI (xs : List Mv) : Int := if mvalid xs then ((odS xs).length : Int) else -1
theorem odS_yes {xs : List Mv} (h : mvalid xs = true) : odS xs = mkD (stL (ordM xs)) := if_pos h
theorem odS_no {xs : List Mv} (h : mvalid xs = false) : odS xs = [] := by unfold odS; rw [h]; rfl
theorem cdI_yes {xs : List Mv} (h : mvalid xs = true) : cdI xs = ((odS xs).length : Int) := if_pos h
theorem cdI_no {xs : List Mv} (h : mvalid xs = false) : cdI xs = -1 := by unfold cdI; rw [h]; rfl
theorem odS_len (xs : List Mv) : (odS xs).length ≤ 38 := by
  unfold odS
  split
  · next h =>
    have hx : MV xs := by simpa [mvalid] using h
    have hl : (ordM xs).length ≤ 19 := by rw [ordM_yes hx]; exact ordF_len _ _
    have := (mkD_len (stL (ordM xs))).2
    have e : (stL (ordM xs)).length = (ordM xs).length := by simp [stL]
    omega
  · simp
theorem od_md {xs : List Mv} (h : mvalid xs = true) : mdS (stL (ordM xs)) = odS xs := by rw [mdS_yes (ord_md h), odS_yes h]
end Go.PD
namespace Go.Proofs.YtnhncbhhlbcieaaGreat
open Go.RowKit Go.PM Go.PD Go.Lib

end Go.Proofs.YtnhncbhhlbcieaaGreat
namespace Go.PM
open Go.RowKit
theorem rdN_take (xs : List Mv) (k : Nat) (hk : k < xs.length) (a : ByteArray) : rdN (xs.take (k + 1)) a = rdN (xs.take k) a + if xs[k].2 = a then 1 else 0 := by
  rw [take_snoc xs k hk]
  unfold rdN
  rw [List.map_append, List.count_append, List.map_cons, List.map_nil, List.count_cons]
  simp
theorem instM_take (a b : ByteArray) (xs : List Mv) (k : Nat) (hk : k < xs.length) : instM a b (xs.take (k + 1)) = instM a b (xs.take k) ++ [(xs[k].1, if xs[k].2 = a then b else xs[k].2)] := by
  rw [take_snoc xs k hk]
  unfold instM
  rw [List.map_append, List.map_cons, List.map_nil]
  by_cases h : xs[k].2 = a
  · rw [if_pos h, if_pos h]
  · rw [if_neg h, if_neg h]
def readB (xs : List Mv) (a : ByteArray) : Bool := decide (rdN xs a ≠ 0)
theorem readB_at {xs : List Mv} {k : Nat} (hk : k < xs.length) {a : ByteArray} (h : xs[k].2 = a) : readB xs a = true := by
  unfold readB
  rw [decide_eq_true_eq]
  intro e
  exact rdN_zero.1 e _ (List.getElem_mem hk) h
theorem readB_no {xs : List Mv} {a : ByteArray} (h : rdN xs a = 0) : readB xs a = false := by
  unfold readB; rw [decide_eq_false_iff_not]; exact fun e => e h
end Go.PM
namespace Go.Proofs.YtnhncbhhlbcieaaGreat
open Go.RowKit Go.PM
attribute [local go_sem] Oper.semAt_some

set_option maxRecDepth 100000 in
set_option maxHeartbeats 800000 in
theorem l5Read_c (xs : List Mv) (v : Value) (a : ByteArray) (w : World) (hx : RdM w v xs) :
    Calls Tryz.prog 93 #[v, .string a] w fun e w' => e = .returned (.bool (readB xs a)) ∧ Below w.heap.size w w' := by
  obtain ⟨A, cap, rfl, hn, hc, hcell⟩ := hx.open
  have HRN := Lib.hid (readB_no (xs := xs) (a := a))
  go_enter Tryz.func93, Tryz.ntmps93
  go_wp2
  go_loopw [6, 9] (fun _ i wr => ∃ (k : Nat), k ≤ xs.length ∧ i = .int .i64 k ∧ Hid (rdN (xs.take k) a = 0) ∧ Below w.heap.size w wr) (fun _ i _ => xs.length - (intOf i).toNat)
  case atStart => exact ⟨0, by omega, rfl, by show _ = _; simp [rdN], Below.refl _ _⟩
  case round =>
    obtain ⟨k, hk, rfl, hm, hb⟩ := hrel
    have hbs := hb.size
    by_cases hlt : k < xs.length
    · obtain ⟨b, off, rfl, hbl, hc1, hc2⟩ := hcell k hlt
      have hd1 := (hb.cell (p := ⟨b, off + k * 2, none⟩) hbl).trans hc1
      have hd2 := (hb.cell (p := ⟨b, off + k * 2 + 1, none⟩) hbl).trans hc2
      clear hc1 hc2 hcell
      have HR := Lib.hid (rdN_take xs k hlt a)
      have HY := Lib.hid (readB_at (xs := xs) (a := a) hlt)
      generalize xs[k].1 = x1 at *
      generalize xs[k].2 = x2 at *
      go_wp2
      · have h : (x2.toList == a.toList) = true := by assumption
        rw [beq_str, decide_eq_true_eq] at h
        go_ret
        exact ⟨by rw [HY.out h]; rfl, by (repeat' (first | (with_reducible exact Below.refl _ _) | (with_reducible assumption) | (with_reducible refine Below.alloc ?_ ?_ _) | (with_reducible refine Below.drew ?_) | (with_reducible refine Below.setCell ?_ ?_ _) | (with_reducible exact Nat.le_refl _) | omega | ((repeat (first | rewrite [World.size_alloc] | rewrite [World.size_setCell] | rewrite [World.size_drew])); omega) | (simp; omega) | (simp; done)))⟩
      · have h : (x2.toList == a.toList) = false := by assumption
        rw [beq_str, decide_eq_false_iff_not] at h
        go_roundw
        case rel => exact ⟨k + 1, by omega, by go_num, by show _ = _; rw [HR.out, hm.out, if_neg h], by (repeat' (first | (with_reducible exact Below.refl _ _) | (with_reducible assumption) | (with_reducible refine Below.alloc ?_ ?_ _) | (with_reducible refine Below.drew ?_) | (with_reducible refine Below.setCell ?_ ?_ _) | (with_reducible exact Nat.le_refl _) | omega | ((repeat (first | rewrite [World.size_alloc] | rewrite [World.size_setCell] | rewrite [World.size_drew])); omega) | (simp; omega) | (simp; done)))⟩
        case measure => simp [intOf]; omega
    · have hk' : k = xs.length := by omega
      have h1 := hm.out
      rw [hk', List.take_of_length_le (Nat.le_refl _)] at h1
      have HF := Lib.hid (HRN.out h1)
      clear h1 hk'
      go_wp2
      go_ret
      exact ⟨by rw [HF.out]; rfl, hb⟩
set_option maxRecDepth 100000 in
set_option maxHeartbeats 1600000 in
theorem l5Instead_c (xs : List Mv) (v : Value) (a c : ByteArray) (w : World) (hx : RdM w v xs) (hn' : xs.length ≤ 1048575) :
    Calls Tryz.prog 80 #[v, .string a, .string c] w fun e w' => ∃ v', e = .returned v' ∧ w'.ownsRow w.heap.size 56 2 v' (instM a c xs).length (mcells (instM a c xs)) ∧ Below w.heap.size w w' := by
  obtain ⟨A, cap, rfl, hn, hc, hcell⟩ := hx.open
  have hE := World.ownsRow_lit (e := 56) (base := w.heap.size) (size := 2) w #[] 0 (Nat.le_refl _) (Nat.zero_le _) rfl
  have HL := Lib.hid (fun k => instM_len a c (xs.take k))
  go_enter Tryz.func80, Tryz.ntmps80
  go_wp2
  go_loopw [7, 9, 13] (fun o _ i wr => ∃ (k : Nat), k ≤ xs.length ∧ i = .int .i64 k ∧ wr.ownsRow w.heap.size 56 2 o (instM a c (xs.take k)).length (mcells (instM a c (xs.take k))) ∧ Below w.heap.size w wr) (fun _ _ i _ => xs.length - (intOf i).toNat)
  case atStart => exact ⟨0, by omega, rfl, hE, by (repeat' (first | (with_reducible exact Below.refl _ _) | (with_reducible assumption) | (with_reducible refine Below.alloc ?_ ?_ _) | (with_reducible refine Below.drew ?_) | (with_reducible refine Below.setCell ?_ ?_ _) | (with_reducible exact Nat.le_refl _) | omega | ((repeat (first | rewrite [World.size_alloc] | rewrite [World.size_setCell] | rewrite [World.size_drew])); omega) | (simp; omega) | (simp; done)))⟩
  case round =>
    obtain ⟨k, hk, rfl, ho, hb⟩ := hrel
    have hbs := hb.size
    by_cases hlt : k < xs.length
    · obtain ⟨b, off, rfl, hbl, hc1, hc2⟩ := hcell k hlt
      have hd1 := (hb.cell (p := ⟨b, off + k * 2, none⟩) hbl).trans hc1
      have hd2 := (hb.cell (p := ⟨b, off + k * 2 + 1, none⟩) hbl).trans hc2
      have hst := instM_take a c xs k hlt
      have hle := HL.out k
      rw [List.length_take] at hle
      clear hc1 hc2 hcell
      generalize xs[k].1 = x1 at *
      generalize xs[k].2 = x2 at *
      have HST := Lib.hid hst
      clear hst
      generalize instM a c (xs.take k) = ys at *
      by_cases hxa : x2 = a
      · have hbq : (x2.toList == a.toList) = true := by rw [beq_str]; simpa using hxa
        have hs := HST.out
        rw [if_pos hxa] at hs
        have HS := Lib.hid hs
        clear hs hxa
        have hnw := two_new (wr.alloc (.cells #[.string x1, .string c] 56)) (.string x1) (.string c) 56
        rw [World.size_alloc] at hnw
        go_wp2_with (at_builtin; refine held ?_)
        unfold Held
        refine app_mv rfl (.tmp 23) (.tmp 25) rfl w.heap.size u7 ys (x1, c) ⟨wr.heap.size + 1, 0, none⟩ 1 (by rfl) (by rfl) (own_keep (own_keep ho ((Below.refl _ _).alloc (Nat.le_refl _) _)) ((Below.refl _ _).alloc (Nat.le_refl _) _)) hnw (by omega) (by simp; omega) ?_
        intro v' w3 hown3 hgrow3
        have hb3 := below_grown hgrow3 (B := w.heap.size) (by simp; omega) (own_block_ge ho)
        have hbx : Below w.heap.size w ((wr.alloc (.cells #[.string x1, .string c] 56)).alloc (.cells #[.string x1, .string c] 56)) := by (repeat' (first | (with_reducible exact Below.refl _ _) | (with_reducible assumption) | (with_reducible refine Below.alloc ?_ ?_ _) | (with_reducible refine Below.drew ?_) | (with_reducible refine Below.setCell ?_ ?_ _) | (with_reducible exact Nat.le_refl _) | omega | ((repeat (first | rewrite [World.size_alloc] | rewrite [World.size_setCell] | rewrite [World.size_drew])); omega) | (simp; omega) | (simp; done)))
        have hb4 := hbx.trans hb3
        rw [← HS.out] at hown3
        clear hnw hgrow3 hb3 hbx
        go_wp2
        go_roundw
        case rel => exact ⟨k + 1, by omega, by go_num, hown3, hb4⟩
        case measure => simp [intOf]; omega
      · have hbq : (x2.toList == a.toList) = false := by rw [beq_str]; simpa using hxa
        have hs := HST.out
        rw [if_neg hxa] at hs
        have HS := Lib.hid hs
        clear hs hxa
        have hnw := two_new (wr.alloc (.cells #[.string x1, .string x2] 56)) (.string x1) (.string x2) 56
        rw [World.size_alloc] at hnw
        go_wp2_with (at_builtin; refine held ?_)
        unfold Held
        refine app_mv rfl (.tmp 23) (.tmp 25) rfl w.heap.size u7 ys (x1, x2) ⟨wr.heap.size + 1, 0, none⟩ 1 (by rfl) (by rfl) (own_keep (own_keep ho ((Below.refl _ _).alloc (Nat.le_refl _) _)) ((Below.refl _ _).alloc (Nat.le_refl _) _)) hnw (by omega) (by simp; omega) ?_
        intro v' w3 hown3 hgrow3
        have hb3 := below_grown hgrow3 (B := w.heap.size) (by simp; omega) (own_block_ge ho)
        have hbx : Below w.heap.size w ((wr.alloc (.cells #[.string x1, .string x2] 56)).alloc (.cells #[.string x1, .string x2] 56)) := by (repeat' (first | (with_reducible exact Below.refl _ _) | (with_reducible assumption) | (with_reducible refine Below.alloc ?_ ?_ _) | (with_reducible refine Below.drew ?_) | (with_reducible refine Below.setCell ?_ ?_ _) | (with_reducible exact Nat.le_refl _) | omega | ((repeat (first | rewrite [World.size_alloc] | rewrite [World.size_setCell] | rewrite [World.size_drew])); omega) | (simp; omega) | (simp; done)))
        have hb4 := hbx.trans hb3
        rw [← HS.out] at hown3
        clear hnw hgrow3 hb3 hbx
        go_wp2
        go_roundw
        case rel => exact ⟨k + 1, by omega, by go_num, hown3, hb4⟩
        case measure => simp [intOf]; omega
    · have hk' : k = xs.length := by omega
      have ho2 := ho
      rw [hk', List.take_of_length_le (Nat.le_refl _)] at ho2
      clear hk' ho
      go_wp2
      go_ret
      exact ⟨_, rfl, ho2, hb⟩
end Go.Proofs.YtnhncbhhlbcieaaGreat
namespace Go.PM
open Go.RowKit
theorem add_off (b off j : Nat) : (⟨b, off, none⟩ : Addr).add j = ⟨b, off + j, none⟩ := by
  unfold Addr.add; split <;> simp_all
theorem own_lit1 (w : World) (e : TypeId) (base B : Nat) (hB : w.heap.size = B) (hb : base ≤ B) : (w.alloc (.cells #[] e)).drew.ownsRow base e 2 (.slice (some ⟨B, 0, none⟩) 0 0) ([] : List Mv).length (mcells []) := by
  subst hB
  exact World.ownsRow_lit (e := e) (base := base) (size := 2) w #[] 0 hb (Nat.zero_le _) rfl
end Go.PM
namespace Go.Proofs.YtnhncbhhlbcieaaGreat
open Go.RowKit Go.PM
attribute [local go_sem] Oper.semAt_some

/-- append of moves that lie somewhere, as a step of a region that draws -/
theorem step_appM {ops : Array Oper} {o : Oper} {a : Act} {w : World} {K : Act → World → Prop} {Q : Exit → Act → World → Prop} {E : Prop} (hgd : o.guard = none) (s x : Operand)
    (ho : o.op = .call { callee := .builtin .append, args := #[s, x], argTypes := #[31, 31] })
    (base : Nat) (v : Value) (ys zs : List Mv) (ad : Addr) (c : Nat) (hs : a.eval s = v) (hx : a.eval x = .slice (some ad) zs.length c)
    (hown : w.ownsRow base 56 2 v ys.length (mcells ys)) (hnew : ∀ j u, (mcells zs)[j]? = some u → w.cell? (ad.add j) = some u)
    (hlen : ys.length + zs.length ≤ 1048576) (hbase : base ≤ w.heap.size)
    (h : ∀ v' w', Hid (w'.ownsRow base 56 2 v' (ys ++ zs).length (mcells (ys ++ zs))) → w.grownBy w' v.ownBlock → K (a.put o.dst v') w') :
    if Region.wanted o (yielded ops a.tmps) = true then Oper.wp Tryz.prog o a w K Q else E := by
  have hw : Region.wanted o (yielded ops a.tmps) = true := by simp [Region.wanted, hgd]
  rw [if_pos hw]
  obtain ⟨i0, hi0, hz0, hz1, hz2⟩ := info_parts infoMv
  obtain ⟨v', w', hr, h2, h3, _⟩ := run_append_own (P := Tryz.prog) w base 31 o.type 56 i0 _ 2 32 Tryz.underlying31 hi0 hz0 hz1 hz2 rfl (by omega) v ys.length (mcells ys) hown ad zs.length c (mcells zs) (mcells_length zs) hnew (mcells_one zs) (by simp only [maxLen]; omega) (by omega) hbase
  unfold Oper.wp
  simp [execOp, ho, resolve, invoke, builtin, hs, hx, hr, Result.andThen]
  refine h v' w' ?_ h3
  show World.ownsRow _ _ _ _ _ _ _
  rw [mcells_append, List.length_append]
  exact h2

set_option maxRecDepth 100000 in
set_option maxHeartbeats 3200000 in
theorem l5Next_c (xs : List Mv) (v : Value) (w : World) (hx : RdM w v xs) (hn' : xs.length ≤ 1048575) (hne : ∀ m ∈ xs, m.1 ≠ m.2) :
    Calls Tryz.prog 79 #[v] w fun e w' => e = .returned (.int .i64 (aheadZ xs)) ∧ Below w.heap.size w w' := by
  have hx0 := hx
  obtain ⟨A, cap, rfl, hn, hc, hcell⟩ := hx.open
  have HZ := Lib.hid (aheadZ_none (xs := xs))
  have HK := Lib.hid (fun k hk h => aheadZ_at (xs := xs) (k := k) hk h)
  have HRD := Lib.hid (fun ys v a W h => l5Read_c ys v a W h)
  have HNE := Lib.hid hne
  clear hne hx
  go_enter Tryz.func79, Tryz.ntmps79
  go_wp2
  go_loopw [3, 4, 5, 8] (fun _ _ _ i wr => ∃ (k : Nat), k ≤ xs.length ∧ i = .int .i64 k ∧ Below w.heap.size w wr ∧ Hid (∀ j (hj : j < k) (hj2 : j < xs.length), freeB xs xs[j] = false)) (fun _ _ _ i _ => xs.length - (RowKit.intOf i).toNat)
  case atStart => exact ⟨0, by omega, rfl, Below.refl _ _, fun j hj => by omega⟩
  case round =>
    obtain ⟨k, hk, rfl, hb, hm⟩ := hrel
    have hbs := hb.size
    by_cases hlt : k < xs.length
    · obtain ⟨b, off, rfl, hbl, hc1, hc2⟩ := hcell k hlt
      have hd1 := (hb.cell (p := ⟨b, off + k * 2, none⟩) hbl).trans hc1
      have hd2 := (hb.cell (p := ⟨b, off + k * 2 + 1, none⟩) hbl).trans hc2
      have hsrc := Rd.cellsFrom hx0
      have hcp : ∀ (W : World), Below w.heap.size w W → ∀ (j : Nat) (u : Value), (mcells (xs.take k))[j]? = some u → W.cell? ((⟨b, off, none⟩ : Addr).add j) = some u := fun W hW j u h => by
        rw [add_off]
        refine (hW.cell hbl).trans (hsrc j u ?_)
        rw [← mcells_take, List.getElem?_take] at h
        split at h
        · exact h
        · cases h
      have hcq : ∀ (W : World), Below w.heap.size w W → ∀ (j : Nat) (u : Value), (mcells (xs.drop (k + 1)))[j]? = some u → W.cell? ((⟨b, off + (k + 1) * 2, none⟩ : Addr).add j) = some u := fun W hW j u h => by
        rw [add_off, Nat.add_assoc]
        refine (hW.cell hbl).trans (hsrc _ u ?_)
        rw [← mcells_drop, List.getElem?_drop] at h
        exact h
      have hltk : (xs.take k).length = k := by rw [List.length_take]; omega
      have hldk : (xs.drop (k + 1)).length = xs.length - (k + 1) := by rw [List.length_drop]
      have hsum : (xs.take k).length + (xs.drop (k + 1)).length ≤ 1048576 := by omega
      have i0 : (0 : Int) ≤ (k : Int) := by omega
      have i1 : (k : Int) ≤ (xs.length : Int) := by omega
      have i2 : (k : Int) + 1 ≤ (xs.length : Int) := by omega
      have HER : Hid (xs.take k ++ xs.drop (k + 1) = xs.eraseIdx k) := by show _ = _; rw [List.eraseIdx_eq_take_drop_succ]
      have HFB : Hid (readB (xs.eraseIdx k) xs[k].1 = !freeB xs xs[k]) := by
        show _ = _
        have h1 := rdN_erase xs k hlt xs[k].1
        rw [if_neg (fun e => HNE.out _ (List.getElem_mem hlt) e.symm), Nat.add_zero] at h1
        unfold readB freeB
        rw [h1]
        by_cases e : rdN (xs.eraseIdx k) xs[k].1 = 0 <;> simp [e]
      have HKK := Lib.hid (fun h => HK.out k hlt h)
      have HNX : Hid (freeB xs xs[k] = false → ∀ j (hj : j < k + 1) (hj2 : j < xs.length), freeB xs xs[j] = false) := fun h j hj hj2 => by
        by_cases e : j = k
        · subst e; exact h
        · exact hm.out j (by omega) hj2
      have HCP := Lib.hid hcp
      have HCQ := Lib.hid hcq
      clear hc1 hc2 hcell hcp hcq hsrc
      generalize hfb : freeB xs xs[k] = fb at *
      clear hfb
      generalize xs[k].1 = x1 at *
      generalize xs[k].2 = x2 at *
      generalize xs.take k = p1 at *
      generalize xs.drop (k + 1) = p2 at *
      generalize xs.eraseIdx k = er at *
      have HB1 : Hid (Below w.heap.size w (wr.alloc (.cells #[.string x1, .string x2] 56))) := hb.alloc hbs _
      have n1 : k ≤ cap := by omega
      have n2 : k + 1 ≤ xs.length := by omega
      have n3 : k + 1 ≤ cap := by omega
      have n4 : IntKind.i64.wrap ((k : Int) + 1) = (k : Int) + 1 := IntWalk.i64_in _ ⟨by omega, by omega⟩
      have n5 : ((k : Int) + 1).toNat = k + 1 := by omega
      have n6 : (0 : Int) ≤ (k : Int) + 1 := by omega
      by_cases hcap : cap = k + 1
      · subst hcap
        have hp20 : p2.length = 0 := by omega
        have n7 : (k : Int) ≤ (k : Int) + 1 := by omega
        have HCZ : Hid (∀ (W : World) (j : Nat) (u : Value), (mcells p2)[j]? = some u → W.cell? ((⟨b, off, none⟩ : Addr).add j) = some u) := fun W j u h => by
          have : p2 = [] := List.length_eq_zero_iff.1 (by omega)
          rw [this] at h; simp [mcells] at h
        go_wp2
        go_region_law (first
          | (refine step_appM rfl (.tmp 13) (.tmp 16) rfl (wr.heap.size + 1) (.slice (some ⟨wr.heap.size + 1, 0, none⟩) 0 0) [] p1 ⟨b, off, none⟩ (k + 1) (by rfl) (by rw [hltk]; rfl) (own_lit1 _ _ _ _ (by simp) (by omega)) (HCP.out _ (by (repeat' (first | (with_reducible exact Below.refl _ _) | (with_reducible assumption) | (with_reducible refine Below.alloc ?_ ?_ _) | (with_reducible refine Below.drew ?_) | (with_reducible refine Below.setCell ?_ ?_ _) | (with_reducible exact Nat.le_refl _) | omega | ((repeat (first | rewrite [World.size_alloc] | rewrite [World.size_setCell] | rewrite [World.size_drew])); omega) | (simp; omega) | (simp; done))))) (by simp; omega) (by simp only [World.size_alloc, World.size_drew]; omega) ?_; intro v1 w1 ho1 hg1; have hb1 := Below.trans (show Below w.heap.size w ((wr.alloc (.cells #[.string x1, .string x2] 56)).alloc (.cells #[] 56)).drew by (repeat' (first | (with_reducible exact Below.refl _ _) | (with_reducible assumption) | (with_reducible refine Below.alloc ?_ ?_ _) | (with_reducible refine Below.drew ?_) | (with_reducible refine Below.setCell ?_ ?_ _) | (with_reducible exact Nat.le_refl _) | omega | ((repeat (first | rewrite [World.size_alloc] | rewrite [World.size_setCell] | rewrite [World.size_drew])); omega) | (simp; omega) | (simp; done)))) (below_grown hg1 (by simp; omega) (fun g e => by have e' : some (wr.heap.size + 1) = some g := e; cases e'; omega)))
          | (refine step_appM rfl (.tmp 17) (.tmp 21) rfl (wr.heap.size + 1) _ _ p2 ⟨b, off, none⟩ 0 (by rfl) (by rw [hp20]; rfl) ho1.out (HCZ.out _) (by simpa using hsum) (by have := hg1.size; simp at this; omega) ?_; intro v2 w2 ho2 hg2))
        have hz1 := hg1.size
        have hz2 := hg2.size
        simp only [World.size_alloc, World.size_drew] at hz1
        have hrd2 : RdM w2 v2 er := by
          have := Rd.of_own ho2.out
          rw [List.nil_append, HER.out] at this
          exact this
        have hge1 := own_block_ge ho1.out
        have hN0 : At ((wr.alloc (.cells #[.string x1, .string x2] 56)).alloc (.cells #[] 56)).drew wr.heap.size 56 #[.string x1, .string x2] := (At.new wr 56 #[.string x1, .string x2]).alloc _
        have hN1 : At w1 wr.heap.size 56 #[.string x1, .string x2] := hN0.grown hg1 (by intro e; have e' : some wr.heap.size = some (wr.heap.size + 1) := e; have := Option.some.inj e'; omega)
        have hN2 : At w2 wr.heap.size 56 #[.string x1, .string x2] := hN1.grown hg2 (fun e => by have := hge1 _ e.symm; omega)
        have q1 : w2.cell? ⟨wr.heap.size, 0, none⟩ = some (.string x1) := hN2.cell 0
        have hb2 : Below w.heap.size w w2 := hb1.trans (below_grown hg2 (by omega) (fun g e => by have := hge1 g e; omega))
        have hs2 := hb2.size
        clear hg1 hg2 hN0 hN1 hN2 ho1 ho2 hd1 hd2 hb1
        have HRR := Lib.hid (HRD.out er v2 x1 w2 hrd2)
        rw [HFB.out] at HRR
        clear hrd2
        cases fb with
        | true =>
          go_wp2_with (go_at_call 93; refine HRR.out.mono ?_; rintro e w3 ⟨rfl, hb3⟩)
          go_ret
          exact ⟨by rw [HKK.out (fun j hj => hm.out j hj (by omega)) (by first | trivial | rfl)]; rfl, hb2.trans (hb3.mono hs2)⟩
        | false =>
          go_wp2_with (go_at_call 93; refine HRR.out.mono ?_; rintro e w3 ⟨rfl, hb3⟩)
          go_roundw
          case rel => exact ⟨k + 1, by omega, by go_num, hb2.trans (hb3.mono hs2), HNX.out (by first | trivial | rfl)⟩
          case measure => simp [RowKit.intOf]; omega
      · go_wp2
        go_region_law (first
          | (refine step_appM rfl (.tmp 13) (.tmp 16) rfl (wr.heap.size + 1) (.slice (some ⟨wr.heap.size + 1, 0, none⟩) 0 0) [] p1 ⟨b, off, none⟩ cap (by rfl) (by rw [hltk]; rfl) (own_lit1 _ _ _ _ (by simp) (by omega)) (HCP.out _ (by (repeat' (first | (with_reducible exact Below.refl _ _) | (with_reducible assumption) | (with_reducible refine Below.alloc ?_ ?_ _) | (with_reducible refine Below.drew ?_) | (with_reducible refine Below.setCell ?_ ?_ _) | (with_reducible exact Nat.le_refl _) | omega | ((repeat (first | rewrite [World.size_alloc] | rewrite [World.size_setCell] | rewrite [World.size_drew])); omega) | (simp; omega) | (simp; done))))) (by simp; omega) (by simp only [World.size_alloc, World.size_drew]; omega) ?_; intro v1 w1 ho1 hg1; have hb1 := Below.trans (show Below w.heap.size w ((wr.alloc (.cells #[.string x1, .string x2] 56)).alloc (.cells #[] 56)).drew by (repeat' (first | (with_reducible exact Below.refl _ _) | (with_reducible assumption) | (with_reducible refine Below.alloc ?_ ?_ _) | (with_reducible refine Below.drew ?_) | (with_reducible refine Below.setCell ?_ ?_ _) | (with_reducible exact Nat.le_refl _) | omega | ((repeat (first | rewrite [World.size_alloc] | rewrite [World.size_setCell] | rewrite [World.size_drew])); omega) | (simp; omega) | (simp; done)))) (below_grown hg1 (by simp; omega) (fun g e => by have e' : some (wr.heap.size + 1) = some g := e; cases e'; omega)))
          | (refine step_appM rfl (.tmp 17) (.tmp 21) rfl (wr.heap.size + 1) _ _ p2 ⟨b, off + (k + 1) * 2, none⟩ (cap - (k + 1)) (by rfl) (by rw [hldk]; rfl) ho1.out (HCQ.out _ hb1) (by simpa using hsum) (by have := hg1.size; simp at this; omega) ?_; intro v2 w2 ho2 hg2))
        have hz1 := hg1.size
        have hz2 := hg2.size
        simp only [World.size_alloc, World.size_drew] at hz1
        have hrd2 : RdM w2 v2 er := by
          have := Rd.of_own ho2.out
          rw [List.nil_append, HER.out] at this
          exact this
        have hge1 := own_block_ge ho1.out
        have hN0 : At ((wr.alloc (.cells #[.string x1, .string x2] 56)).alloc (.cells #[] 56)).drew wr.heap.size 56 #[.string x1, .string x2] := (At.new wr 56 #[.string x1, .string x2]).alloc _
        have hN1 : At w1 wr.heap.size 56 #[.string x1, .string x2] := hN0.grown hg1 (by intro e; have e' : some wr.heap.size = some (wr.heap.size + 1) := e; have := Option.some.inj e'; omega)
        have hN2 : At w2 wr.heap.size 56 #[.string x1, .string x2] := hN1.grown hg2 (fun e => by have := hge1 _ e.symm; omega)
        have q1 : w2.cell? ⟨wr.heap.size, 0, none⟩ = some (.string x1) := hN2.cell 0
        have hb2 : Below w.heap.size w w2 := hb1.trans (below_grown hg2 (by omega) (fun g e => by have := hge1 g e; omega))
        have hs2 := hb2.size
        clear hg1 hg2 hN0 hN1 hN2 ho1 ho2 hd1 hd2 hb1
        have HRR := Lib.hid (HRD.out er v2 x1 w2 hrd2)
        rw [HFB.out] at HRR
        clear hrd2
        cases fb with
        | true =>
          go_wp2_with (go_at_call 93; refine HRR.out.mono ?_; rintro e w3 ⟨rfl, hb3⟩)
          go_ret
          exact ⟨by rw [HKK.out (fun j hj => hm.out j hj (by omega)) (by first | trivial | rfl)]; rfl, hb2.trans (hb3.mono hs2)⟩
        | false =>
          go_wp2_with (go_at_call 93; refine HRR.out.mono ?_; rintro e w3 ⟨rfl, hb3⟩)
          go_roundw
          case rel => exact ⟨k + 1, by omega, by go_num, hb2.trans (hb3.mono hs2), HNX.out (by first | trivial | rfl)⟩
          case measure => simp [RowKit.intOf]; omega
    · have hz := HZ.out fun j hj => hm.out j (by omega) hj
      have HZZ := Lib.hid hz
      clear hz
      go_wp2
      go_ret
      exact ⟨by rw [HZZ.out]; rfl, hb⟩
end Go.Proofs.YtnhncbhhlbcieaaGreat
namespace Go.PM
open Go.RowKit
theorem rows_ne {w : World} {base base' : Nat} {e e' : TypeId} {size size' n n' : Nat} {v v' : Value} {cs cs' : List Value} (h : w.ownsRow base e size v n cs) (h' : w.ownsRow base' e' size' v' n' cs') (hne : e ≠ e') : v.ownBlock ≠ v'.ownBlock ∨ v'.ownBlock = none := by
  rcases h'.2 with ⟨rfl, _⟩ | ⟨g, cap, cur, rfl, _, hg, _⟩
  · exact .inr rfl
  · refine .inl fun e1 => ?_
    rcases h.2 with ⟨rfl, _⟩ | ⟨g2, cap2, cur2, rfl, _, hg2, _⟩
    · cases e1
    · cases e1
      rw [hg] at hg2
      cases hg2
      exact hne rfl
theorem redM_spec {ws : List Mv} (h : Wt ws) {i : Nat} (hi : i < ws.length) : redM ws[i] (ws.eraseIdx i) = if isP ws[i].2 = true then instM ws[i].2 ws[i].1 (ws.eraseIdx i) else ws.eraseIdx i := by
  have hm := List.getElem_mem hi
  unfold redM
  rcases h.from_ _ hm with h1 | h1 | h1
  · rw [if_neg (by rw [(isP_cases h1).1]; decide), if_pos h1]
  · rw [if_pos h1, if_neg (by rw [(isD_cases h1).1]; decide)]
  · rw [h1, if_neg (by rw [spT_cases.2]; decide), if_neg (by rw [spT_cases.1]; decide)]
    refine instM_none ?_
    have h2 := rdN_erase ws i hi spT
    rw [if_pos h1] at h2
    have := h.one
    omega
theorem redM_spec0 {ws : List Mv} (h : Wt ws) (h0 : 0 < ws.length) : redM (spT, ws[0].1) ws = instM ws[0].1 spT ws := by
  unfold redM
  rw [if_neg (by show ¬ isD ws[0].1 = true; rw [(isP_cases (h.to_ _ (List.getElem_mem h0))).1]; decide)]
/-- what the ordering holds at the head of a round: k steps are enough for what waits -/
def OrdS (w : World) (e f : TypeId) (xs : List Mv) (k : Nat) (ov wv : Value) (A : World) : Prop :=
  ∃ (pre ws : List Mv), pre ++ ordF k ws = ordF 19 xs ∧ Wt ws ∧ muW ws ≤ k ∧ ws.length ≤ 9 ∧ A.ownsRow w.heap.size e 2 wv ws.length (mcells ws) ∧ A.ownsRow w.heap.size f 3 ov pre.length (scells (stL pre)) ∧ Below w.heap.size w A
end Go.PM
namespace Go.Proofs.YtnhncbhhlbcieaaGreat
open Go.RowKit Go.PM
attribute [local go_sem] Oper.semAt_some

/-- append of one step -/
theorem app_stp {ops : Array Oper} {rest : List Oper} {o : Oper} {a : Act} {Q : Exit → Act → World → Prop} {w : World} (hgd : o.guard = none) (s x : Operand)
    (ho : o.op = .call { callee := .builtin .append, args := #[s, x], argTypes := #[23, 23] })
    (base : Nat) (v : Value) (ys : List Mv) (m : Mv) (ad : Addr) (c : Nat) (hs : a.eval s = v) (hx : a.eval x = .slice (some ad) 1 c)
    (hown : w.ownsRow base 58 3 v ys.length (scells (stL ys))) (hnew : ∀ j u, [Value.int .i64 0, Value.string m.1, Value.string m.2][j]? = some u → w.cell? (ad.add j) = some u)
    (hlen : ys.length ≤ 1048576) (hbase : base ≤ w.heap.size)
    (h : ∀ v' w', w'.ownsRow base 58 3 v' (ys ++ [m]).length (scells (stL (ys ++ [m]))) → w.grownBy w' v.ownBlock → wpList Tryz.prog ops Q rest (a.put o.dst v') w') : wpList Tryz.prog ops Q (o :: rest) a w := by
  obtain ⟨i0, hi0, hz0, hz1, hz2⟩ := info_parts infoStp
  refine wpList_append_own w hgd s x _ ho base 58 i0 _ 3 40 Tryz.underlying23 hi0 hz0 hz1 hz2 rfl (by omega) v ys.length (scells (stL ys)) hs hown ad 1 c [Value.int .i64 0, Value.string m.1, Value.string m.2] hx rfl hnew
    (by intro u hu; simp at hu; rcases hu with rfl | rfl | rfl <;> rfl) (by simp only [maxLen]; omega) (by omega) hbase ?_
  intro v' w' h2 h3 _
  refine h v' w' ?_ h3
  have hcs : scells (stL ys) ++ [Value.int .i64 0, Value.string m.1, Value.string m.2] = scells (stL (ys ++ [m])) := by unfold stL; rw [List.map_append, scells_append]; simp [scells, stpM]
  rw [← hcs, List.length_append]
  simpa using h2

set_option maxRecDepth 100000 in
set_option maxHeartbeats 6400000 in
theorem l5Order_c (xs : List Mv) (h1 : MV xs) (v : Value) (w : World) (hx : RdM w v xs) :
    Calls Tryz.prog 66 #[v] w fun e w' => ∃ v', e = .returned v' ∧ w'.ownsRow w.heap.size 58 3 v' (ordF 19 (busyF xs 9)).length (scells (stL (ordF 19 (busyF xs 9)))) ∧ Below w.heap.size w w' := by
  have hW := busyF_Wt h1
  have hl9 := busyF_len xs 9
  have HNX := Lib.hid (fun ws wv A hx hl hn => l5Next_c ws wv A hx (by omega : ws.length ≤ 1048575) hn)
  have HIN := Lib.hid (fun ws wv a c A hx hl => l5Instead_c ws wv a c A hx (by omega : ws.length ≤ 1048575))
  have hE0 := World.ownsRow_lit (e := 58) (base := w.heap.size) (size := 3) w #[] 0 (Nat.le_refl _) (Nat.zero_le _) rfl
  have hb0 : Below w.heap.size w (w.alloc (.cells #[] 58)) := (Below.refl _ _).alloc (Nat.le_refl _) _
  have HB := Lib.hid (l1Busy_c xs v _ (hx.below hb0))
  go_enter Tryz.func66, Tryz.ntmps66
  go_wp2_with (go_at_call 78; refine HB.out.mono ?_; rintro e w1 ⟨v1, rfl, ho1, hb1⟩; refine held ?_)
  unfold Held
  have hb01 := hb0.trans (hb1.mono (by simp))
  have hR0 : OrdS w 56 58 (busyF xs 9) 19 (.slice (some ⟨w.heap.size, 0, none⟩) 0 0) v1 w1 :=
    ⟨[], busyF xs 9, rfl, hW, by have := hl9; unfold muW; split <;> omega, hl9, own_more ho1 hb0.size, own_keep hE0 hb1, hb01⟩
  clear hE0 hb0 HB ho1 hb1 hb01 hx hl9 hW h1
  generalize hbe : busyF xs 9 = bs at *
  have HBE := Lib.hid hbe
  clear hbe
  go_wp2
  go_loopw [3, 4, 5, 6, 7] (fun ov wv _ _ _ wr => ∃ k, OrdS w 56 58 bs k ov wv wr) (fun ov wv _ _ _ wr => leastK (fun k => OrdS w 56 58 bs k ov wv wr))
  case atStart => exact ⟨19, hR0⟩
  case round =>
    obtain ⟨hru, _⟩ := leastK_spec hrel
    generalize hkk : leastK (fun k => OrdS w 56 58 bs k u3 u4 wr) = kk at *
    have HKK := Lib.hid hkk
    clear hrel hkk hR0
    obtain ⟨pre, ws, hpr, hwt, hmu, h9, ho, hov, hb⟩ := hru
    have hbs := hb.size
    have hrd : RdM wr u4 ws := Rd.of_own ho
    obtain ⟨A, cap, rfl, hn1, hc1, hcell⟩ := hrd.open
    have hpl : pre.length ≤ 100 := by
      have h1 := congrArg List.length hpr
      rw [List.length_append] at h1
      have h2 := ordF_len 19 bs
      omega
    by_cases h0 : 0 < ws.length
    · obtain ⟨k, rfl⟩ : ∃ k', kk = k' + 1 := ⟨kk - 1, by unfold muW at hmu; omega⟩
      obtain ⟨b, off, rfl, hbl, d1', d2'⟩ := hcell 0 h0
      have hblo := (own_lt ho)
      have hcs : ∀ q (hq : q < ws.length), wr.cell? ⟨b, off + q * 2, none⟩ = some (.string ws[q].1) ∧ wr.cell? ⟨b, off + q * 2 + 1, none⟩ = some (.string ws[q].2) := fun q hq => by
        obtain ⟨b', off', e, _, q1, q2⟩ := hcell q hq
        cases e; exact ⟨q1, q2⟩
      have d1 : wr.cell? ⟨b, off, none⟩ = some (.string ws[0].1) := by simpa using d1'
      have i00 : (0 : Int) < (ws.length : Int) := by omega
      have hnx := HNX.out ws _ wr hrd (by omega) hwt.ne
      clear d1' d2' hcell
      rcases aheadZ_lt ws with hz | ⟨i, hi, hz, ha⟩
      · have ha := aheadI_of_neg hz
        have hof := ordF_none (n := k) h0 ha
        have hrn := hwt.none_ h0 ha
        have hrs := redM_spec0 hwt h0
        have hmn := muW_none hwt h0 ha
        rw [hrs] at hof hrn hmn
        have hin := HIN.out ws (.slice (some ⟨b, off, none⟩) ws.length cap) ws[0].1 spT
        have hnw := three_new
        have HNEW : Hid ((pre ++ [(spT, ws[0].1)]) ++ ordF k (instM ws[0].1 spT ws) = ordF 19 bs ∧ Wt (instM ws[0].1 spT ws) ∧ muW (instM ws[0].1 spT ws) ≤ k ∧ (instM ws[0].1 spT ws).length ≤ 9) :=
          ⟨by rw [← hpr, hof]; simp, hrn.1, by omega, by rw [instM_len]; exact h9⟩
        have HSP : Hid (spT = ⟨#[116]⟩) := rfl
        rw [hz] at hnx
        clear hz hof hrn hrs hmn hcs ha hpr
        generalize instM ws[0].1 spT ws = ws2 at *
        generalize ws[0].1 = x1 at *
        generalize spT = sp at *
        have hsp := HSP.out
        subst hsp
        go_wp2_with (go_at_call 79; refine hnx.mono ?_; rintro e w1' ⟨rfl, hb1⟩; refine held ?_)
        unfold Held
        have e1 := (hb1.cell (p := ⟨b, off, none⟩) hbl).trans d1
        have hov1 := own_keep hov hb1
        have ho1 := own_keep ho hb1
        have hB1 := hb.trans (hb1.mono hbs)
        have hs1 := hB1.size
        clear d1 hov ho hrd hb hb1
        go_wp2_with (at_builtin; refine held ?_)
        unfold Held
        refine app_stp rfl (.tmp 22) (.tmp 26) rfl w.heap.size _ pre (⟨#[116]⟩, x1) ⟨w1'.heap.size, 0, none⟩ 1 (by rfl) (by rfl) (own_keep hov1 ((Below.refl _ _).alloc (Nat.le_refl _) _)) (three_new w1' _ _ _ _) (by omega) (by simp; omega) ?_
        intro v3 w3 hov3 hg3
        have hbx : Below w.heap.size w (w1'.alloc (.cells #[.int .i64 0, .string ⟨#[116]⟩, .string x1] 58)) := hB1.alloc hs1 _
        have hB3 := hbx.trans (below_grown hg3 (by simp; omega) (own_block_ge hov1))
        have hs3 := hB3.size
        have ho3 := own_grown (own_keep ho1 ((Below.refl _ _).alloc (Nat.le_refl _) (.cells #[.int .i64 0, .string ⟨#[116]⟩, .string x1] 58))) hg3 (rows_ne ho1 hov1 (by decide))
        have hrd3 : RdM w3 _ ws := Rd.of_own ho3
        clear hg3 hbx hB1 hov1 ho1 e1
        go_wp2_with fail
        refine (hin w3 hrd3 (by omega)).mono ?_
        rintro e w4 ⟨v4, rfl, ho4, hb4⟩
        have hOR : OrdS w 56 58 bs k v3 v4 w4 := ⟨_, ws2, HNEW.out.1, HNEW.out.2.1, HNEW.out.2.2.1, HNEW.out.2.2.2, own_more ho4 hs3, own_keep hov3 hb4, hB3.trans (hb4.mono hs3)⟩
        clear ho4 hov3 hb4 ho3 hrd3
        go_wp2
        go_roundw
        case rel => exact ⟨k, hOR⟩
        case measure =>
          rw [HKK.out]
          have := (leastK_spec (P := fun k => OrdS w 56 58 bs k v3 v4 w4) ⟨k, hOR⟩).2 _ hOR
          omega
      · have hof := ordF_some (n := k) hi ha
        have hrn := hwt.some_ hi (aheadI_some ha).2
        have hrs := redM_spec hwt hi
        have hmn := muW_some hi ws[i]
        have hlr : (redM ws[i] (ws.eraseIdx i)).length ≤ 9 := by rw [redM_len, List.length_eraseIdx_of_lt hi]; omega
        have hin := fun v => HIN.out (ws.eraseIdx i) v ws[i].2 ws[i].1
        have hle9 : (ws.eraseIdx i).length ≤ 9 := by rw [List.length_eraseIdx_of_lt hi]; omega
        have HNEW : Hid ((pre ++ [ws[i]]) ++ ordF k (redM ws[i] (ws.eraseIdx i)) = ordF 19 bs ∧ Wt (redM ws[i] (ws.eraseIdx i)) ∧ muW (redM ws[i] (ws.eraseIdx i)) ≤ k ∧ (redM ws[i] (ws.eraseIdx i)).length ≤ 9) :=
          ⟨by rw [← hpr, hof]; simp, hrn, by omega, hlr⟩
        have HRS := Lib.hid hrs
        have hci := hcs i hi
        have i0 : (0 : Int) ≤ (i : Int) := by omega
        have i1 : (i : Int) < (ws.length : Int) := by omega
        rw [hz] at hnx
        clear hz hof hrn hrs hmn hcs ha hpr hlr d1
        generalize redM ws[i] (ws.eraseIdx i) = ws2 at *
        rw [show ws[i] = (ws[i].1, ws[i].2) from rfl] at HNEW
        generalize ws[i].1 = x1 at *
        generalize ws[i].2 = x2 at *
        go_wp2_with (go_at_call 79; refine hnx.mono ?_; rintro e w1' ⟨rfl, hb1⟩; refine held ?_)
        unfold Held
        have e1 := (hb1.cell (p := ⟨b, off + i * 2, none⟩) hbl).trans hci.1
        have e2 := (hb1.cell (p := ⟨b, off + i * 2 + 1, none⟩) hbl).trans hci.2
        have hov1 := own_keep hov hb1
        have ho1 := own_keep ho hb1
        have hB1 := hb.trans (hb1.mono hbs)
        have hs1 := hB1.size
        clear hov ho hrd hb hb1 hci
        have hN1 := At.new w1' 56 #[.string x1, .string x2]
        have hax : Below w1'.heap.size w1' (w1'.alloc (.cells #[.string x1, .string x2] 56)) := (Below.refl _ _).alloc (Nat.le_refl _) _
        have hov1b := own_keep hov1 hax
        have ho1b := own_keep ho1 hax
        have hnw := three_new (w1'.alloc (.cells #[.string x1, .string x2] 56)) (.int .i64 0) (.string x1) (.string x2) 58
        rw [World.size_alloc] at hnw
        go_wp2_with (at_builtin; refine held ?_)
        unfold Held
        refine app_stp rfl (.tmp 35) (.tmp 38) rfl w.heap.size _ pre (x1, x2) ⟨w1'.heap.size + 1, 0, none⟩ 1 (by rfl) (by rfl) (own_keep hov1b ((Below.refl _ _).alloc (Nat.le_refl _) _)) hnw (by omega) (by simp; omega) ?_
        intro v3 wx hov3 hg3
        have hbx : Below w.heap.size w ((w1'.alloc (.cells #[.string x1, .string x2] 56)).alloc (.cells #[.int .i64 0, .string x1, .string x2] 58)) := (hB1.alloc hs1 _).alloc (by simp; omega) _
        have hB3 := hbx.trans (below_grown hg3 (by simp; omega) (own_block_ge hov1))
        have hs3 := hB3.size
        have ho3 := own_grown (own_keep ho1b ((Below.refl _ _).alloc (Nat.le_refl _) (.cells #[.int .i64 0, .string x1, .string x2] 58))) hg3 (rows_ne ho1b hov1b (by decide))
        have hN3 := (hN1.alloc (.cells #[.int .i64 0, .string x1, .string x2] 58)).grown hg3 (own_box_ne hov1b hN1 (by decide))
        have hrdx : RdM wx (.slice (some ⟨b, off, none⟩) ws.length cap) ws := Rd.of_own ho3
        have hblx : b < wx.heap.size := (own_blk ho3 rfl).1
        have hsrc := Rd.cellsFrom hrdx
        clear hg3 hbx hB1 hov1 ho1 e1 e2 hov1b ho1b hax hN1 hnw hnx
        have hcp : ∀ (W : World), Below wx.heap.size wx W → ∀ (j : Nat) (u : Value), (mcells (ws.take i))[j]? = some u → W.cell? ((⟨b, off, none⟩ : Addr).add j) = some u := fun W hW j u h => by
          rw [add_off]
          refine (hW.cell hblx).trans (hsrc j u ?_)
          rw [← mcells_take, List.getElem?_take] at h
          split at h
          · exact h
          · cases h
        have hcq : ∀ (W : World), Below wx.heap.size wx W → ∀ (j : Nat) (u : Value), (mcells (ws.drop (i + 1)))[j]? = some u → W.cell? ((⟨b, off + (i + 1) * 2, none⟩ : Addr).add j) = some u := fun W hW j u h => by
          rw [add_off, Nat.add_assoc]
          refine (hW.cell hblx).trans (hsrc _ u ?_)
          rw [← mcells_drop, List.getElem?_drop] at h
          exact h
        have hltk : (ws.take i).length = i := by rw [List.length_take]; omega
        have hldk : (ws.drop (i + 1)).length = ws.length - (i + 1) := by rw [List.length_drop]
        have hsum : (ws.take i).length + (ws.drop (i + 1)).length ≤ 1048576 := by omega
        have i2 : (i : Int) + 1 ≤ (ws.length : Int) := by omega
        have i3 : (i : Int) ≤ (ws.length : Int) := by omega
        have HER : Hid (ws.take i ++ ws.drop (i + 1) = ws.eraseIdx i) := by show _ = _; rw [List.eraseIdx_eq_take_drop_succ]
        have HCP := Lib.hid hcp
        have HCQ := Lib.hid hcq
        have n1 : i ≤ cap := by omega
        have n2 : i + 1 ≤ ws.length := by omega
        have n3 : i + 1 ≤ cap := by omega
        have n4 : IntKind.i64.wrap ((i : Int) + 1) = (i : Int) + 1 := IntWalk.i64_in _ ⟨by omega, by omega⟩
        have n5 : ((i : Int) + 1).toNat = i + 1 := by omega
        have n6 : (0 : Int) ≤ (i : Int) + 1 := by omega
        clear hcp hcq hsrc
        generalize ws.take i = p1 at *
        generalize ws.drop (i + 1) = p2 at *
        by_cases hcap : cap = i + 1
        · subst hcap
          have hp20 : p2.length = 0 := by omega
          have n7 : (i : Int) ≤ (i : Int) + 1 := by omega
          have HCZ : Hid (∀ (W : World) (j : Nat) (u : Value), (mcells p2)[j]? = some u → W.cell? ((⟨b, off, none⟩ : Addr).add j) = some u) := fun W j u h => by
            have : p2 = [] := List.length_eq_zero_iff.1 (by omega)
            rw [this] at h; simp [mcells] at h
          go_wp2
          go_region_law (first
                    | (refine step_appM rfl (.tmp 40) (.tmp 43) rfl wx.heap.size (.slice (some ⟨wx.heap.size, 0, none⟩) 0 0) [] p1 ⟨b, off, none⟩ (i + 1) (by rfl) (by rw [hltk]; rfl) (own_lit1 _ _ _ _ rfl (Nat.le_refl _)) (HCP.out _ (by (repeat' (first | (with_reducible exact Below.refl _ _) | (with_reducible assumption) | (with_reducible refine Below.alloc ?_ ?_ _) | (with_reducible refine Below.drew ?_) | (with_reducible refine Below.setCell ?_ ?_ _) | (with_reducible exact Nat.le_refl _) | omega | ((repeat (first | rewrite [World.size_alloc] | rewrite [World.size_setCell] | rewrite [World.size_drew])); omega) | (simp; omega) | (simp; done))))) (by simp; omega) (by simp) ?_; intro vq wq ho1 hg1; have hb1' := Below.trans (show Below wx.heap.size wx ((wx.alloc (.cells #[] 56)).drew) by (repeat' (first | (with_reducible exact Below.refl _ _) | (with_reducible assumption) | (with_reducible refine Below.alloc ?_ ?_ _) | (with_reducible refine Below.drew ?_) | (with_reducible refine Below.setCell ?_ ?_ _) | (with_reducible exact Nat.le_refl _) | omega | ((repeat (first | rewrite [World.size_alloc] | rewrite [World.size_setCell] | rewrite [World.size_drew])); omega) | (simp; omega) | (simp; done)))) (below_grown hg1 (by simp) (fun g e => by have e' : some wx.heap.size = some g := e; cases e'; omega)))
                    | (refine step_appM rfl (.tmp 44) (.tmp 48) rfl wx.heap.size _ _ p2 ⟨b, off, none⟩ 0 (by rfl) (by rw [hp20]; rfl) ho1.out (HCZ.out _) (by simpa using hsum) (by have := hg1.size; simp at this; omega) ?_; intro v2 w2 ho2 hg2))
          have hz1 := hg1.size
          have hz2 := hg2.size
          simp only [World.size_alloc, World.size_drew] at hz1
          have hge1 := own_block_ge ho1.out
          have hb2 : Below wx.heap.size wx w2 := hb1'.trans (below_grown hg2 (by omega) (fun g e => by have := hge1 g e; omega))
          have ho2' : w2.ownsRow wx.heap.size 56 2 v2 (ws.eraseIdx i).length (mcells (ws.eraseIdx i)) := by
            have := ho2.out
            rw [List.nil_append, HER.out] at this
            exact this
          have HO2 := Lib.hid ho2'
          clear hg1 hg2 ho1 ho2 hb1' ho2' hge1 hz1 hz2 HCP HCQ HER
          
          have q1 := hN3.keep hb2
          have q11 : w2.cell? ⟨w1'.heap.size, 0, none⟩ = some (.string x1) := q1.cell 0
          have q12 : w2.cell? ⟨w1'.heap.size, 1, none⟩ = some (.string x2) := q1.cell 1
          have hov4 := own_keep hov3 hb2
          have hB4 := hB3.trans (hb2.mono hs3)
          have hs4 := hB4.size
          have hs5 := hb2.size
          clear q1 hN3 hov3 hrdx ho3 hB3 hb2
          rcases Bool.eq_false_or_eq_true (isP x2) with hp | hp
          · have hr := HRS.out
            rw [if_pos hp] at hr
            have hrd5 : RdM w2 v2 (ws.eraseIdx i) := Rd.of_own HO2.out
            have HI := Lib.hid (hin v2 w2 hrd5 (by omega))
            rw [← hr] at HI
            clear hr hrd5 hin
            go_wp2_with (first | (go_at_call 47; refine (l1Place_c _ _).mono ?_; rintro e w' ⟨rfl, rfl⟩) | (go_at_call 80; refine HI.out.mono ?_; rintro e w6 ⟨v6, rfl, ho6, hb6⟩; refine held ?_))
            unfold Held
            have hOR : OrdS w 56 58 bs k v3 v6 w6 := ⟨_, ws2, HNEW.out.1, HNEW.out.2.1, HNEW.out.2.2.1, HNEW.out.2.2.2, own_more ho6 hs4, own_keep hov4 hb6, hB4.trans (hb6.mono hs4)⟩
            clear ho6 hov4 hb6 hB4
            go_wp2
            go_roundw
            case rel => exact ⟨k, hOR⟩
            case measure =>
              rw [HKK.out]
              have := (leastK_spec (P := fun k => OrdS w 56 58 bs k v3 v6 w6) ⟨k, hOR⟩).2 _ hOR
              omega
          · have hr := HRS.out
            rw [if_neg (by rw [hp]; decide)] at hr
            have ho7 := HO2.out
            rw [← hr] at ho7
            have hOR : OrdS w 56 58 bs k v3 v2 w2 := ⟨_, ws2, HNEW.out.1, HNEW.out.2.1, HNEW.out.2.2.1, HNEW.out.2.2.2, own_more ho7 (by omega), hov4, hB4⟩
            clear hr ho7 hov4 hB4 hin
            go_wp2_with (go_at_call 47; refine (l1Place_c _ _).mono ?_; rintro e w' ⟨rfl, rfl⟩)
            go_roundw
            case rel => exact ⟨k, hOR⟩
            case measure =>
              rw [HKK.out]
              have := (leastK_spec (P := fun k => OrdS w 56 58 bs k v3 v2 w2) ⟨k, hOR⟩).2 _ hOR
              omega
        · go_wp2
          go_region_law (first
                    | (refine step_appM rfl (.tmp 40) (.tmp 43) rfl wx.heap.size (.slice (some ⟨wx.heap.size, 0, none⟩) 0 0) [] p1 ⟨b, off, none⟩ cap (by rfl) (by rw [hltk]; rfl) (own_lit1 _ _ _ _ rfl (Nat.le_refl _)) (HCP.out _ (by (repeat' (first | (with_reducible exact Below.refl _ _) | (with_reducible assumption) | (with_reducible refine Below.alloc ?_ ?_ _) | (with_reducible refine Below.drew ?_) | (with_reducible refine Below.setCell ?_ ?_ _) | (with_reducible exact Nat.le_refl _) | omega | ((repeat (first | rewrite [World.size_alloc] | rewrite [World.size_setCell] | rewrite [World.size_drew])); omega) | (simp; omega) | (simp; done))))) (by simp; omega) (by simp) ?_; intro vq wq ho1 hg1; have hb1' := Below.trans (show Below wx.heap.size wx ((wx.alloc (.cells #[] 56)).drew) by (repeat' (first | (with_reducible exact Below.refl _ _) | (with_reducible assumption) | (with_reducible refine Below.alloc ?_ ?_ _) | (with_reducible refine Below.drew ?_) | (with_reducible refine Below.setCell ?_ ?_ _) | (with_reducible exact Nat.le_refl _) | omega | ((repeat (first | rewrite [World.size_alloc] | rewrite [World.size_setCell] | rewrite [World.size_drew])); omega) | (simp; omega) | (simp; done)))) (below_grown hg1 (by simp) (fun g e => by have e' : some wx.heap.size = some g := e; cases e'; omega)))
                    | (refine step_appM rfl (.tmp 44) (.tmp 48) rfl wx.heap.size _ _ p2 ⟨b, off + (i + 1) * 2, none⟩ (cap - (i + 1)) (by rfl) (by rw [hldk]; rfl) ho1.out (HCQ.out _ hb1') (by simpa using hsum) (by have := hg1.size; simp at this; omega) ?_; intro v2 w2 ho2 hg2))
          have hz1 := hg1.size
          have hz2 := hg2.size
          simp only [World.size_alloc, World.size_drew] at hz1
          have hge1 := own_block_ge ho1.out
          have hb2 : Below wx.heap.size wx w2 := hb1'.trans (below_grown hg2 (by omega) (fun g e => by have := hge1 g e; omega))
          have ho2' : w2.ownsRow wx.heap.size 56 2 v2 (ws.eraseIdx i).length (mcells (ws.eraseIdx i)) := by
            have := ho2.out
            rw [List.nil_append, HER.out] at this
            exact this
          have HO2 := Lib.hid ho2'
          clear hg1 hg2 ho1 ho2 hb1' ho2' hge1 hz1 hz2 HCP HCQ HER
          
          have q1 := hN3.keep hb2
          have q11 : w2.cell? ⟨w1'.heap.size, 0, none⟩ = some (.string x1) := q1.cell 0
          have q12 : w2.cell? ⟨w1'.heap.size, 1, none⟩ = some (.string x2) := q1.cell 1
          have hov4 := own_keep hov3 hb2
          have hB4 := hB3.trans (hb2.mono hs3)
          have hs4 := hB4.size
          have hs5 := hb2.size
          clear q1 hN3 hov3 hrdx ho3 hB3 hb2
          rcases Bool.eq_false_or_eq_true (isP x2) with hp | hp
          · have hr := HRS.out
            rw [if_pos hp] at hr
            have hrd5 : RdM w2 v2 (ws.eraseIdx i) := Rd.of_own HO2.out
            have HI := Lib.hid (hin v2 w2 hrd5 (by omega))
            rw [← hr] at HI
            clear hr hrd5 hin
            go_wp2_with (first | (go_at_call 47; refine (l1Place_c _ _).mono ?_; rintro e w' ⟨rfl, rfl⟩) | (go_at_call 80; refine HI.out.mono ?_; rintro e w6 ⟨v6, rfl, ho6, hb6⟩; refine held ?_))
            unfold Held
            have hOR : OrdS w 56 58 bs k v3 v6 w6 := ⟨_, ws2, HNEW.out.1, HNEW.out.2.1, HNEW.out.2.2.1, HNEW.out.2.2.2, own_more ho6 hs4, own_keep hov4 hb6, hB4.trans (hb6.mono hs4)⟩
            clear ho6 hov4 hb6 hB4
            go_wp2
            go_roundw
            case rel => exact ⟨k, hOR⟩
            case measure =>
              rw [HKK.out]
              have := (leastK_spec (P := fun k => OrdS w 56 58 bs k v3 v6 w6) ⟨k, hOR⟩).2 _ hOR
              omega
          · have hr := HRS.out
            rw [if_neg (by rw [hp]; decide)] at hr
            have ho7 := HO2.out
            rw [← hr] at ho7
            have hOR : OrdS w 56 58 bs k v3 v2 w2 := ⟨_, ws2, HNEW.out.1, HNEW.out.2.1, HNEW.out.2.2.1, HNEW.out.2.2.2, own_more ho7 (by omega), hov4, hB4⟩
            clear hr ho7 hov4 hB4 hin
            go_wp2_with (go_at_call 47; refine (l1Place_c _ _).mono ?_; rintro e w' ⟨rfl, rfl⟩)
            go_roundw
            case rel => exact ⟨k, hOR⟩
            case measure =>
              rw [HKK.out]
              have := (leastK_spec (P := fun k => OrdS w 56 58 bs k v3 v2 w2) ⟨k, hOR⟩).2 _ hOR
              omega

    · have : ws = [] := List.length_eq_zero_iff.1 (by omega)
      subst this
      rw [ordF_nil, List.append_nil] at hpr
      rw [hpr] at hov
      go_wp2
      go_ret
      exact ⟨_, rfl, by rw [HBE.out]; exact hov, hb⟩
set_option maxRecDepth 100000 in
set_option maxHeartbeats 1600000 in
theorem spOrderMoves_c (xs : List Mv) (v : Value) (w : World) (hx : RdM w v xs) (hz : ∀ m ∈ xs, m.1.size ≤ 9223372036854775807 ∧ m.2.size ≤ 9223372036854775807) (hn' : xs.length ≤ 1048576) :
    Calls Tryz.prog 48 #[v] w fun e w' => ∃ v', e = .returned (.tuple #[v', .bool (mvalid xs)]) ∧ w'.ownsRow w.heap.size 58 3 v' (ordM xs).length (scells (stL (ordM xs))) ∧ Below w.heap.size w w' := by
  rcases Bool.eq_false_or_eq_true (mvalid xs) with h1 | h1
  · have hO := Lib.hid (show ordM xs = ordF 19 (busyF xs 9) from if_pos h1)
    have hOC := Lib.hid (fun W h => l5Order_c xs (by simpa [mvalid] using h1) v W h)
    have HX := Lib.hid (fun W (hW : Below w.heap.size w W) => hx.below hW)
    go_enter Tryz.func48, Tryz.ntmps48
    go_wp2_with fail
    refine (spMovesValid_c xs _ _ hx hz hn').mono ?_
    rintro e w1 ⟨he, hb1⟩
    rw [h1] at he
    subst he
    have hs1 := hb1.size
    go_wp2_with fail
    refine (hOC.out _ (HX.out _ hb1)).mono ?_
    rintro e w2 ⟨v2, rfl, ho2, hb2⟩
    have hB := hb1.trans (hb2.mono hs1)
    have ho3 := own_more ho2 hs1
    rw [← hO.out] at ho3
    clear ho2 hb2
    go_wp2
    go_ret2
    exact ⟨_, by rw [h1]; rfl, ho3, hB⟩
  · have hno : ordM xs = [] := if_neg (by rw [h1]; decide)
    have HNO := Lib.hid hno
    clear hno
    go_enter Tryz.func48, Tryz.ntmps48
    go_wp2_with fail
    refine (spMovesValid_c xs _ _ hx hz hn').mono ?_
    rintro e w1 ⟨he, hb1⟩
    rw [h1] at he
    subst he
    have hs1 := hb1.size
    have hE := World.ownsRow_lit (e := 58) (base := w.heap.size) (size := 3) w1 #[] 0 (by omega) (Nat.zero_le _) rfl
    have hB := hb1.alloc hs1 (.cells #[] 58)
    go_wp2
    go_ret2
    exact ⟨_, by rw [h1]; rfl, by rw [HNO.out]; exact hE, hB⟩
theorem spOrderMovesL_c (xs : List Mv) (v : Value) (w : World) (hx : RdM w v xs) (hz : ∀ m ∈ xs, m.1.size ≤ 9223372036854775807 ∧ m.2.size ≤ 9223372036854775807) (hn' : xs.length ≤ 1048576) :
    Calls Tryz.prog 48 #[v] w fun e w' => ∃ v', e = .returned (.tuple #[v', .bool (mvalid xs)]) ∧ w'.ownsRow w.heap.size 58 3 v' (stL (ordM xs)).length (scells (stL (ordM xs))) ∧ Below w.heap.size w w' := by
  rw [stL_len]; exact spOrderMoves_c xs v w hx hz hn'
end Go.Proofs.YtnhncbhhlbcieaaGreat
namespace Go.Proofs.YtnhncbhhlbcieaaGreat
open Go.RowKit Go.PM Go.PD Go.Lib
set_option maxRecDepth 100000 in
set_option maxHeartbeats 1600000 in
theorem spOrderDirect_c (xs : List Mv) (v : Value) (w : World) (hx : RdM w v xs) (hz : ∀ m ∈ xs, m.1.size ≤ 9223372036854775807 ∧ m.2.size ≤ 9223372036854775807) (hn' : xs.length ≤ 1048576) :
    Calls Tryz.prog 20 #[v] w fun e w' => ∃ v', e = .returned (.tuple #[v', .bool (mvalid xs)]) ∧ w'.ownsRow w.heap.size 58 3 v' (odS xs).length (scells (odS xs)) ∧ Below w.heap.size w w' := by
  have HO := Lib.hid (spOrderMoves_c xs v w hx hz hn')
  rcases Bool.eq_false_or_eq_true (mvalid xs) with h1 | h1
  · have HE := Lib.hid (odS_yes h1)
    have hl : (ordM xs).length ≤ 19 := by
      have hx : MV xs := by simpa [mvalid] using h1
      rw [ordM_yes hx]; exact ordF_len _ _
    have HL : Hid ((stL (ordM xs)).length = (ordM xs).length) := by show _ = _; simp [stL]
    have H1 := Lib.hid h1
    clear h1
    go_enter Tryz.func20, Tryz.ntmps20
    go_wp2_with fail
    refine HO.out.mono ?_
    rintro e w1 ⟨v1, rfl, ho, hb1⟩
    rw [H1.out]
    rw [← HL.out] at ho
    have hx1 : RdS w1 v1 (stL (ordM xs)) := Rd.of_own ho
    have HMD := Lib.hid (l8Direct_c (stL (ordM xs)) v1 w1 hx1 (by rw [HL.out]; omega))
    rw [← HE.out] at HMD
    have hs1 := hb1.size
    clear ho hx1
    go_wp2_with fail
    refine HMD.out.mono ?_
    rintro e w2 ⟨v2, rfl, ho2, hb2⟩
    have ho3 := own_more ho2 hs1
    have hb3 := hb1.trans (hb2.mono hs1)
    clear HMD ho2 hb2
    go_wp2
    go_ret2
    exact ⟨_, by rw [H1.out]; rfl, ho3, hb3⟩
  · have HE := Lib.hid (odS_no h1)
    have H1 := Lib.hid h1
    clear h1
    go_enter Tryz.func20, Tryz.ntmps20
    go_wp2_with fail
    refine HO.out.mono ?_
    rintro e w1 ⟨v1, rfl, ho, hb1⟩
    rw [H1.out]
    have hO := World.ownsRow_lit (e := 58) (base := w.heap.size) (size := 3) w1 #[] 0 hb1.size (Nat.zero_le _) rfl
    clear ho
    go_wp2
    go_ret2
    exact ⟨_, by rw [H1.out]; rfl, by rw [HE.out]; exact hO, hb1.alloc hb1.size _⟩
end Go.Proofs.YtnhncbhhlbcieaaGreat
namespace Go.PD
open Go.PM Go.RowKit
theorem ord_sh {xs : List Mv} (h : mvalid xs = true) : shS 70 (stL (ordM xs)) := by
  have hx : MV xs := by simpa [mvalid] using h
  have hv := ordM_valid hx
  have hl : (ordM xs).length ≤ 19 := by rw [ordM_yes hx]; exact ordF_len _ _
  refine ⟨by simp [stL]; omega, fun x hm => ?_⟩
  have := ok_sizes (sv_mem hv x hm)
  omega
theorem rdB_nowD {w w' : World} {n : Nat} {v : Value} (h : RdB w w.heap.size v n) (hb : Below w.heap.size w w') : RdB w' w'.heap.size v n := by
  obtain ⟨A, cap, e, h1, h2, h3⟩ := h.keep (grown_below hb none) (fun r e => by cases e)
  refine ⟨A, cap, e, h1, h2, fun k hk => ?_⟩
  obtain ⟨b, off, c, e1, _, hl, hc⟩ := h3 k hk
  exact ⟨b, off, c, e1, hl, hl, hc⟩
end Go.PD
namespace Go.Proofs.YtnhncbhhlbcieaaGreat
open Go.RowKit Go.PM Go.PD
attribute [local go_sem] Oper.semAt_some

set_option maxRecDepth 100000 in
set_option maxHeartbeats 2000000 in
theorem l8Some_c (w : World) (B r : Nat) (p : Int) (hr : Rdr w 77 B r p) (p1 : p ≤ 900000) :
    Calls Tryz.prog 19 #[.pointer (some ⟨r, 0, none⟩)] w fun e w' => ∃ v xs p', e = .returned v ∧ w'.ownsRow w.heap.size 56 2 v xs.length (mcells xs) ∧ (xs.length ≤ 65 ∧ ∀ m ∈ xs, m.1.size ≤ 64 ∧ m.2.size ≤ 64) ∧ Rdr w' 77 B r p' ∧ p' ≤ p + 100 ∧ w.grownBy w' (some r) := by
  have hlt : r < w.heap.size := by obtain ⟨_, _, v, n, _, _, h⟩ := hr; exact h.lt
  have HP := Lib.hid (pick_c w B r 3 p hr (by omega) (by omega) (by omega))
  go_enter Tryz.func19, Tryz.ntmps19
  go_wp2_with fail
  refine HP.out.mono ?_
  rintro e w1 ⟨k, rfl, k0, k1, R1, g1⟩
  have hs1 := g1.size
  clear HP
  by_cases h0 : k = 0
  · subst h0
    have HS := Lib.hid (l1Some_c w1 B r (p + 1) R1 (by omega))
    go_wp2_with fail
    refine HS.out.mono ?_
    rintro e w2 ⟨v, xs, p', rfl, ho, hsh, R2, hp', g2⟩
    have HSH := Lib.hid hsh
    have HPP : Hid (p' ≤ p + 100) := by show _ ≤ _; omega
    clear hsh
    go_wp2
    go_ret
    exact ⟨_, xs, p', rfl, own_more ho hs1, HSH.out, R2, HPP.out, grown_trans g1 g2⟩
  · have t0 : (k == 0) = false := by simpa using h0
    go_wp2_with fail
    have E0 := World.ownsRow_lit (e := 56) (base := w.heap.size) (size := 2) w1 #[] 0 hs1 (Nat.zero_le _) rfl
    have L5 := Lits.strs1 (w1.alloc (.cells #[] 56)) 9 #[.string ⟨#[65, 66, 67]⟩, .string ⟨#[97, 65, 66]⟩, .string ⟨#[97, 98, 65, 66, 67]⟩, .string ⟨#[97, 65, 49, 66]⟩] 20 (by rfl)
    rw [World.size_alloc] at L5
    refine (of_c _ B r (w1.heap.size + 1) 4 (p + 1) (fun s => 1 ≤ s.size ∧ s.size ≤ 20) ((R1.keep ((Below.refl _ _).alloc (Nat.le_refl _) _)).keep ((Below.refl _ _).alloc (Nat.le_refl _) _)) (by decide) (by decide) (by omega) L5 (by omega)).mono ?_
    clear L5
    rintro e w2 ⟨from_, rfl, ⟨hf1, hf2⟩, R2, g2⟩
    have E1 := own_grown (own_keep E0 ((Below.refl _ _).alloc (Nat.le_refl _) (.cells #[.string ⟨#[65, 66, 67]⟩, .string ⟨#[97, 65, 66]⟩, .string ⟨#[97, 98, 65, 66, 67]⟩, .string ⟨#[97, 65, 49, 66]⟩] 9))) g2 (.inl (fun e => by have := own_block_ge E0 r e; omega))
    have G2 := grown_trans g1 (grown_trans (grown_below (((Below.refl _ _).alloc (Nat.le_refl _) (.cells #[] 56)).alloc (by simp) (.cells #[.string ⟨#[65, 66, 67]⟩, .string ⟨#[97, 65, 66]⟩, .string ⟨#[97, 98, 65, 66, 67]⟩, .string ⟨#[97, 65, 49, 66]⟩] 9)) (some r)) g2)
    have hs2 := G2.size
    clear E0 g1 g2 R1
    go_wp2
    go_loopw [3, 5, 6, 18] (fun o _ _ i wr => ∃ (j : Nat) (xs : List Mv) (q : Int), j ≤ from_.size ∧ i = .int .i64 j ∧ xs.length ≤ j ∧ Hid (∀ m ∈ xs, m.1.size ≤ 64 ∧ m.2.size ≤ 64) ∧ wr.ownsRow w.heap.size 56 2 o xs.length (mcells xs) ∧ Rdr wr 77 B r q ∧ q ≤ p + 2 + 2 * (j : Int) ∧ w.grownBy wr (some r)) (fun _ _ _ i _ => from_.size - (intOf i).toNat)
    case atStart => exact ⟨0, [], _, by omega, rfl, Nat.zero_le _, (fun m hm => by cases hm), E1, R2, by omega, G2⟩
    case round =>
      obtain ⟨j, xs, q, hj, rfl, hxl, hxs, ho, R, hq, G⟩ := hrel
      have hsr := G.size
      by_cases hlt2 : j < from_.size
      · have i1 : (j : Int) < (from_.size : Int) := by omega
        have z1 : (from_.extract j (j + 1)).size = 1 := by rw [ByteArray.size_extract]; omega
        generalize hx1 : from_.extract j (j + 1) = x1 at *
        have HPL := Lib.hid (fun W => l1Place_c x1 W)
        have HP4 := Lib.hid (pick_c wr B r 5 q R (by omega) (by omega) (by omega))
        generalize isP x1 = pb at *
        cases pb with
        | false =>
          go_wp2_with (go_at_call 47; refine (HPL.out _).mono ?_; rintro e w' ⟨rfl, rfl⟩)
          go_roundw
          case rel => exact ⟨j + 1, xs, q, by omega, by go_num, by omega, hxs, ho, R, by omega, G⟩
          case measure => simp [intOf]; omega
        | true =>
          go_wp2_with (first | (go_at_call 47; refine (HPL.out _).mono ?_; rintro e w' ⟨rfl, rfl⟩) | (go_at_call 22; refine held ?_))
          unfold Held
          refine HP4.out.mono ?_
          rintro e w4 ⟨k4, rfl, k40, k41, R4, g4⟩
          have ho4 := own_grown ho g4 (.inl (fun e => by have := own_block_ge ho r e; omega))
          have G4 := grown_trans G g4
          have hs4 := G4.size
          clear ho g4 G R HP4
          by_cases hp0 : 0 < k4
          · have HP5 := Lib.hid (pick_c w4 B r from_.size (q + 1) R4 (by omega) (by omega) (by omega))
            go_wp2_with fail
            refine HP5.out.mono ?_
            rintro e w5 ⟨k5, rfl, k50, k51, R5, g5⟩
            obtain ⟨J, rfl⟩ := Int.eq_ofNat_of_zero_le k50
            have ho5 := own_grown ho4 g5 (.inl (fun e => by have := own_block_ge ho4 r e; omega))
            have G5 := grown_trans G4 g5
            have hs5 := G5.size
            clear ho4 g5 G4 R4 HP5
            have z2 : (from_.extract J (J + 1)).size = 1 := by rw [ByteArray.size_extract]; omega
            have HXA : Hid (∀ m ∈ xs ++ [(x1, from_.extract J (J + 1))], m.1.size ≤ 64 ∧ m.2.size ≤ 64) := fun m hm => by
              rcases List.mem_append.1 hm with h | h
              · exact hxs.out m h
              · have e : m = (x1, from_.extract J (J + 1)) := by simpa using h
                rw [e]
                exact ⟨by show x1.size ≤ 64; omega, by show (from_.extract J (J + 1)).size ≤ 64; omega⟩
            generalize hx2 : from_.extract J (J + 1) = x2 at *
            have hnw := two_new w5.drew (.string x1) (.string x2) 56
            have hlr : r < w5.heap.size := by omega
            go_wp2
            refine region_late_wide (m := 0) (C := fun w' => w' = w5.drew) (D := fun _ => True) 12 (by kernel_rfl) (by kernel_rfl) _ _ (by rfl) (by rfl) (by rfl) u3 (by intro _ _ _ h; exact h) (yieldsD_move (by rfl) _ (by rfl) u3 (by rfl)) (fun _ _ => trivial) rfl ?_
            simp only [List.take_succ_cons, List.take_zero, List.drop_succ_cons, List.drop_zero, Nat.reduceSub, Nat.reduceAdd]
            simp only [Act.put, List.setIfInBounds_toArray, List.set_cons_succ, List.set_cons_zero]
            repeat (gi_big_quiet_step (fail))
            refine wpQuietIn_nil ?_
            intro w' hw' K hK
            subst hw'
            refine sliceIn_mv (.tmp 47) rfl x1 x2 (by rfl) ?_
            refine hK _ _ trivial ?_
            clear hK K
            simp only [Act.put, List.setIfInBounds_toArray, List.set_cons_succ, List.set_cons_zero]
            have hod : w5.drew.ownsRow w.heap.size 56 2 u3 xs.length (mcells xs) := ho5
            have hzd : w5.drew.heap.size = w5.heap.size := rfl
            refine listIn_mv rfl (.tmp 36) (.tmp 48) rfl w.heap.size u3 xs (x1, x2) ⟨w5.drew.heap.size, 0, none⟩ 1 (by rfl) (by rfl) (own_keep hod ((Below.refl _ _).alloc (Nat.le_refl _) _)) hnw (by omega) (by simp; omega) ?_
            intro v' w6 hown6 hgrow6
            have hge := own_block_ge ho5
            have Rd5 : Rdr w5.drew 77 B r (q + 1 + 1) := R5
            have Gd5 : w.grownBy w5.drew (some r) := ⟨G5.os, G5.tape, G5.output, G5.size, G5.block⟩
            have R6 := (Rd5.keep ((Below.refl _ _).alloc (Nat.le_refl _) (.cells #[.string x1, .string x2] 56))).grow hgrow6 (fun g e => by have := hge g e; omega)
            have G6 := grown_over (grown_trans Gd5 (grown_below ((Below.refl _ _).alloc (Nat.le_refl _) (.cells #[.string x1, .string x2] 56)) (some r))) hgrow6 hge
            clear ho5 R5 G5 hod Rd5 Gd5 hge hgrow6 hnw hxs
            gi_wp2
            go_wp2
            go_roundw
            case rel => exact ⟨j + 1, xs ++ [(x1, x2)], _, by omega, by go_num, by simp; omega, HXA, hown6, R6, by omega, G6⟩
            case measure => simp [intOf]; omega
          · have t1 : decide (0 < k4) = false := decide_eq_false hp0
            go_wp2
            go_roundw
            case rel => exact ⟨j + 1, xs, _, by omega, by go_num, by omega, hxs, ho4, R4, by omega, G4⟩
            case measure => simp [intOf]; omega
      · have HQQ : Hid (q ≤ p + 100) := by show _ ≤ _; omega
        go_wp2
        go_ret
        exact ⟨_, xs, q, rfl, ho, ⟨by omega, hxs.out⟩, R, HQQ.out, G⟩
set_option maxRecDepth 100000 in
set_option maxHeartbeats 1600000 in
theorem l8Steps_c (w : World) (B r : Nat) (p : Int) (hr : Rdr w 77 B r p) (p1 : p ≤ 800000) :
    Calls Tryz.prog 23 #[.pointer (some ⟨r, 0, none⟩)] w fun e w' => ∃ v xs p', e = .returned v ∧ w'.ownsRow w.heap.size 58 3 v xs.length (scells xs) ∧ shS 70 xs ∧ Rdr w' 77 B r p' ∧ p' ≤ p + 200 ∧ w.grownBy w' (some r) := by
  have HS := Lib.hid (l8Some_c w B r p hr (by omega))
  have hlt : r < w.heap.size := by obtain ⟨_, _, v, n, _, _, h⟩ := hr; exact h.lt
  go_enter Tryz.func23, Tryz.ntmps23
  go_wp2_with fail
  refine HS.out.mono ?_
  rintro e w1 ⟨v1, xs, p', rfl, ho1, ⟨hxl, hxz⟩, R1, hp1, g1⟩
  have hs1 := g1.size
  have HO := Lib.hid (spOrderMoves_c xs v1 w1 (Rd.of_own ho1) (fun m hm => by have := hxz m hm; omega) (by omega))
  have HSH := Lib.hid (fun h => ord_sh (xs := xs) h)
  have HL : Hid ((stL (ordM xs)).length = (ordM xs).length) := by show _ = _; simp [stL]
  clear HS hr ho1 hxz
  go_wp2_with fail
  refine HO.out.mono ?_
  rintro e w2 ⟨v2, rfl, ho2, hb2⟩
  rw [← HL.out] at ho2
  have R2 := R1.keep hb2
  have G2 := grown_trans g1 (grown_below hb2 (some r))
  have hs2 := G2.size
  have hs12 := hb2.size
  have ho3 := own_more ho2 hs1
  clear HO R1 g1 hb2 ho2
  generalize hys : stL (ordM xs) = ys at *
  have HYS := Lib.hid hys
  rcases Bool.eq_false_or_eq_true (mvalid xs) with h1 | h1
  · have HSY := Lib.hid (HSH.out h1)
    rw [h1]
    have HP := Lib.hid (pick_c w2 B r 2 p' R2 (by omega) (by omega) (by omega))
    go_wp2_with fail
    refine HP.out.mono ?_
    rintro e w3 ⟨k, rfl, k0, k1, R3, g3⟩
    have ho4 := own_grown ho3 g3 (.inl (fun e => by have := own_block_ge ho3 r e; omega))
    have G3 := grown_trans G2 g3
    have hs3 := G3.size
    clear HP ho3 g3 R2 h1
    by_cases h0 : k = 0
    · subst h0
      go_wp2
      go_ret
      exact ⟨_, ys, _, rfl, ho4, HSY.out, R3, by omega, G3⟩
    · have t0 : (k == 0) = false := by simpa using h0
      have HD := Lib.hid (l2Some_c w3 B r (p' + 1) R3 (by omega))
      go_wp2_with fail
      refine HD.out.mono ?_
      rintro e w4 ⟨v4, zs, p4, rfl, ho5, hsh, R4, hp4, g4⟩
      have HSZ := Lib.hid hsh
      have ho6 := own_more ho5 hs3
      have G4 := grown_trans G3 g4
      clear hsh ho5 ho4
      go_wp2
      go_ret
      exact ⟨_, zs, _, rfl, ho6, HSZ.out, R4, by omega, G4⟩
  · rw [h1]
    have HD := Lib.hid (l2Some_c w2 B r p' R2 (by omega))
    go_wp2_with fail
    refine HD.out.mono ?_
    rintro e w4 ⟨v4, zs, p4, rfl, ho5, hsh, R4, hp4, g4⟩
    have HSZ := Lib.hid hsh
    have ho6 := own_more ho5 hs2
    have G4 := grown_trans G2 g4
    clear hsh ho5 ho3
    go_wp2
    go_ret
    exact ⟨_, zs, _, rfl, ho6, HSZ.out, R4, by omega, G4⟩
end Go.Proofs.YtnhncbhhlbcieaaGreat
namespace Go.PD
open Go.PM Go.RowKit
theorem beq_u (x : ByteArray) : (x.toList == [117]) = decide (x = spU) := by
  have := beq_str x spU
  rwa [ByteArray.toList_eq spU] at this
theorem mdS_len (xs : List St) : (mdS xs).length ≤ 1048576 := by
  unfold mdS
  split
  · next h =>
    unfold mdB at h
    simp only [Bool.and_eq_true, decide_eq_true_eq] at h
    omega
  · simp
theorem all_bad {xs : List St} (h : ∀ j (hj : j < xs.length), badX xs[j] = false) : ∀ x ∈ xs, badX x = false := fun x hx => by
  obtain ⟨k, hk, rfl⟩ := List.getElem_of_mem hx
  exact h k hk
end Go.PD
namespace Go.Proofs.YtnhncbhhlbcieaaGreat
open Go.RowKit Go.PM Go.PD Go.Lib

end Go.Proofs.YtnhncbhhlbcieaaGreat
namespace Go.PD
open Go.PM Go.RowKit
theorem mdS_sh {xs : List St} : shS 70 (mdS xs) := by
  unfold mdS
  split
  · next h =>
    have hB := h
    unfold mdB at h
    simp only [Bool.and_eq_true, decide_eq_true_eq] at h
    have hv : svalid (mkD xs) = true := by rw [mkD_valid h.1, decide_eq_true h.2.2.2]
    refine ⟨by omega, fun x hx => ?_⟩
    have := ok_sizes (sv_mem hv x hx)
    omega
  · exact ⟨by simp, by simp⟩
end Go.PD
namespace Go.Proofs.YtnhncbhhlbcieaaGreat
open Go.RowKit Go.PM Go.PD
attribute [local go_sem] Oper.semAt_some

set_option maxHeartbeats 800000 in
theorem drawSlotTraffic_c (w : World) (v : Value) (n : Nat) (hv : RdB w w.heap.size v n) :
    Calls Tryz.prog 7 #[v] w fun e w' => ∃ u xs, e = .returned u ∧ w'.ownsRow w.heap.size 58 3 u xs.length (scells xs) ∧ shS 70 xs ∧ Below w.heap.size w w' := by
  have HO := Lib.hid (l13Open_c w v n hv)
  go_enter Tryz.func7, Tryz.ntmps7
  go_wp2_with fail
  refine HO.out.mono ?_
  rintro e w1 ⟨r, rfl, R1, b1⟩
  have hs1 := b1.size
  have hB := R1.1
  have HS := Lib.hid (l8Steps_c w1 _ r 0 R1 (by omega))
  go_wp2_with fail
  refine HS.out.mono ?_
  rintro e w2 ⟨u, xs, p', rfl, ho, hsh, R2, hp, g2⟩
  have HSH := Lib.hid hsh
  have ho2 := own_more ho hs1
  have b2 : Below w.heap.size w w2 := b1.trans (below_grown g2 hs1 (fun g e => by cases e; exact hB))
  clear HO HS hsh
  go_wp2
  go_ret
  exact ⟨_, xs, rfl, ho2, HSH.out, b2⟩
set_option maxHeartbeats 800000 in
theorem drawFreeRegisters_c (w : World) (v : Value) (n : Nat) (hv : RdB w w.heap.size v n) :
    Calls Tryz.prog 10 #[v] w fun e w' => ∃ u xs, e = .returned u ∧ w'.ownsRow w.heap.size 56 2 u xs.length (mcells xs) ∧ (xs.length ≤ 65 ∧ ∀ m ∈ xs, m.1.size ≤ 64 ∧ m.2.size ≤ 64) ∧ Below w.heap.size w w' := by
  have HO := Lib.hid (l13Open_c w v n hv)
  go_enter Tryz.func10, Tryz.ntmps10
  go_wp2_with fail
  refine HO.out.mono ?_
  rintro e w1 ⟨r, rfl, R1, b1⟩
  have hs1 := b1.size
  have hB := R1.1
  have HS := Lib.hid (l8Some_c w1 _ r 0 R1 (by omega))
  go_wp2_with fail
  refine HS.out.mono ?_
  rintro e w2 ⟨u, xs, p', rfl, ho, hsh, R2, hp, g2⟩
  have HSH := Lib.hid hsh
  have ho2 := own_more ho hs1
  have b2 : Below w.heap.size w w2 := b1.trans (below_grown g2 hs1 (fun g e => by cases e; exact hB))
  clear HO HS hsh
  go_wp2
  go_ret
  exact ⟨_, xs, rfl, ho2, HSH.out, b2⟩
end Go.Proofs.YtnhncbhhlbcieaaGreat
namespace Go.PM
open Go.RowKit
def atP (p : Nat) (m : Mv) : Bool := decide (m.1 = nm p)
def sortO (xs : List Mv) (k : Nat) : List Mv := (List.range k).flatMap fun p => xs.filter (atP p)
def sortI (xs : List Mv) (k j : Nat) : List Mv := sortO xs k ++ (xs.take j).filter (atP k)
theorem filt_snoc (l : List Mv) (m : Mv) (f : Mv → Bool) : (l ++ [m]).filter f = if f m then l.filter f ++ [m] else l.filter f := by
  rw [List.filter_append]
  by_cases h : f m <;> simp [h]
theorem sortI_step (xs : List Mv) (k j : Nat) (hj : j < xs.length) : sortI xs k (j + 1) = if xs[j].1 = nm k then sortI xs k j ++ [xs[j]] else sortI xs k j := by
  unfold sortI
  rw [take_snoc xs j hj, filt_snoc]
  by_cases h : xs[j].1 = nm k
  · rw [if_pos h, if_pos (by rw [atP, decide_eq_true h]), List.append_assoc]
  · rw [if_neg h, if_neg (by rw [atP, decide_eq_false h]; decide)]
theorem sortI_zero (xs : List Mv) (k : Nat) : sortI xs k 0 = sortO xs k := by simp [sortI]
theorem sortI_full (xs : List Mv) (k : Nat) : sortI xs k xs.length = sortO xs (k + 1) := by
  rw [sortI, List.take_length, sortO, sortO, List.range_succ, List.flatMap_append]
  simp
theorem sortO_le (xs : List Mv) (k : Nat) : (sortO xs k).length ≤ k * xs.length := by
  induction k with
  | zero => simp [sortO]
  | succ k ih =>
    rw [← sortI_full, sortI, List.length_append, List.take_length, Nat.succ_mul]
    have := List.length_filter_le (atP k) xs
    omega
theorem sortI_le (xs : List Mv) (k j : Nat) : (sortI xs k j).length ≤ k * xs.length + xs.length := by
  rw [sortI, List.length_append]
  have h1 := sortO_le xs k
  have h2 := List.length_filter_le (atP k) (xs.take j)
  rw [List.length_take] at h2
  omega
def sortM (xs : List Mv) : List Mv := if mvalid xs then sortO xs 9 else []
end Go.PM
namespace Go.Proofs.YtnhncbhhlbcieaaGreat
open Go.RowKit Go.PM

end Go.Proofs.YtnhncbhhlbcieaaGreat
namespace Go.PM
open Go.RowKit
theorem filter_find (a : ByteArray) : ∀ xs : List Mv, (xs.map (·.1)).Nodup → xs.filter (fun m => decide (m.1 = a)) = (xs.find? (fun m => decide (m.1 = a))).toList
  | [], _ => rfl
  | m :: xs, h => by
    rw [List.map_cons, List.nodup_cons] at h
    by_cases hm : m.1 = a
    · have h2 : xs.filter (fun m => decide (m.1 = a)) = [] := by
        rw [List.filter_eq_nil_iff]
        intro y hy e
        have : y.1 = a := by simpa using e
        exact h.1 (List.mem_map.2 ⟨y, hy, by rw [this, hm]⟩)
      simp [hm, h2]
    · have ih := filter_find a xs h.2
      simp [hm, ih]
theorem filter_tab {xs : List Mv} (h : MV xs) (p : Nat) : xs.filter (atP p) = if hasT (tabOf xs) p then [(nm p, tabOf xs p)] else [] := by
  have h1 : xs.filter (atP p) = (xs.find? (fun m => decide (m.1 = nm p))).toList := filter_find (nm p) xs h.2
  rw [h1]
  unfold hasT
  cases hf : xs.find? (fun m => decide (m.1 = nm p)) with
  | none =>
    have : tabOf xs p = emp := by unfold tabOf; rw [hf]; rfl
    simp [this]
  | some m =>
    have e1 : m.1 = nm p := by simpa using List.find?_some hf
    have e2 : tabOf xs p = m.2 := by unfold tabOf; rw [hf]; rfl
    have hm := h.1 m (List.mem_of_find?_eq_some hf)
    unfold mok at hm; rw [Bool.and_eq_true] at hm
    have e3 : m.2 ≠ emp := fun e => by have := isS_size hm.2; rw [e] at this; cases this
    rw [e2, ← e1]
    simp [e3]
theorem mvT_flat (t : Nat → ByteArray) : ∀ l : List Nat, mvT t l = l.flatMap fun p => if hasT t p then [(nm p, t p)] else []
  | [] => rfl
  | p :: l => by
    have ih := mvT_flat t l
    rw [List.flatMap_cons, ← ih]
    unfold mvT
    cases h : hasT t p <;> simp [h]
theorem sortM_mvT {xs : List Mv} (h : MV xs) : sortM xs = mvT (tabOf xs) (List.range 9) := by
  have hm : mvalid xs = true := by simpa [mvalid] using h
  rw [sortM, if_pos hm, sortO, mvT_flat]
  congr 1
  funext p
  exact filter_tab h p
end Go.PM
namespace Go.Proofs.YtnhncbhhlbcieaaGreat
open Go.RowKit Go.PM

end Go.Proofs.YtnhncbhhlbcieaaGreat
namespace Go.PM
open Go.RowKit
def nmd (xs : List Mv) : List UInt8 := xs.flatMap fun m => m.1.data.toList ++ m.2.data.toList
def nmB (xs : List Mv) : ByteArray := ⟨(nmd xs).toArray⟩
def piH (xs : List Mv) (p : Nat) : Bool := decide (placesL.getD p 0 ∈ nmd xs)
theorem nmd_snoc (l : List Mv) (m : Mv) : nmd (l ++ [m]) = nmd l ++ (m.1.data.toList ++ m.2.data.toList) := by simp [nmd]
theorem any_snoc (l : List Mv) (m : Mv) (f : Mv → Bool) : (l ++ [m]).any f = (l.any f || f m) := by simp
theorem nmB_step (xs : List Mv) (k : Nat) (hk : k < xs.length) : nmB (xs.take k) ++ (xs[k].1 ++ xs[k].2) = nmB (xs.take (k + 1)) := by
  apply ByteArray.ext
  rw [ByteArray.data_append, ByteArray.data_append, nmB, nmB, take_snoc xs k hk, nmd_snoc]
  generalize nmd (xs.take k) = L
  simp
theorem nmB_size {xs : List Mv} (h : MV xs) (k : Nat) : (nmB (xs.take k)).size ≤ 2 * k := by
  induction k with
  | zero => exact Nat.le_refl _
  | succ k ih =>
    by_cases hk : k < xs.length
    · rw [← nmB_step xs k hk]
      have h1 := h.1 xs[k] (List.getElem_mem hk)
      unfold mok at h1; rw [Bool.and_eq_true] at h1
      have h2 := isP_size h1.1
      have h3 := isS_size h1.2
      simp only [ByteArray.size_append]; omega
    · rw [List.take_of_length_le (by omega)] at ih ⊢
      omega
def inMv (p : Nat) (m : Mv) : Bool := decide (m.1 = nm p) || decide (m.2 = nm p)
def inM (xs : List Mv) (p k : Nat) : Bool := (xs.take k).any (inMv p)
theorem inM_succ (xs : List Mv) (p k : Nat) (hk : k < xs.length) : inM xs p (k + 1) = (inM xs p k || decide (xs[k].1 = nm p) || decide (xs[k].2 = nm p)) := by
  rw [inM, inM, take_snoc xs k hk, any_snoc, inMv, Bool.or_assoc]
theorem inM_zero (xs : List Mv) (p : Nat) : inM xs p 0 = false := by simp [inM]
theorem one_mem {a : ByteArray} (h : a.size = 1) (p : Nat) : placesL.getD p 0 ∈ a.data.toList ↔ a = nm p := by
  obtain ⟨c, rfl⟩ := one_of_size h
  constructor
  · intro h'
    simp at h'
    rw [nm, ← h']; simp
  · intro h'
    rw [h']; simp [nm]
theorem inM_full {xs : List Mv} (h : MV xs) (p : Nat) : inM xs p xs.length = piH xs p := by
  rw [inM, List.take_length, piH, Bool.eq_iff_iff, List.any_eq_true, decide_eq_true_eq, nmd, List.mem_flatMap]
  have key : ∀ m ∈ xs, inMv p m = true ↔ placesL.getD p 0 ∈ m.1.data.toList ++ m.2.data.toList := fun m hm => by
    have h1 := h.1 m hm
    unfold mok at h1; rw [Bool.and_eq_true] at h1
    rw [List.mem_append, one_mem (isP_size h1.1), one_mem (isS_size h1.2), inMv, Bool.or_eq_true, decide_eq_true_eq, decide_eq_true_eq]
  constructor
  · rintro ⟨m, hm, e⟩; exact ⟨m, hm, (key m hm).1 e⟩
  · rintro ⟨m, hm, e⟩; exact ⟨m, hm, (key m hm).2 e⟩
theorem nmd_sort {xs : List Mv} (h : MV xs) : piH (mvT (tabOf xs) (List.range 9)) = piH xs := by
  rw [← sortM_mvT h]
  have hm : mvalid xs = true := by simpa [mvalid] using h
  have hx : ∀ m, m ∈ sortM xs ↔ m ∈ xs := fun m => by
    rw [sortM, if_pos hm, sortO]
    simp only [List.mem_flatMap, List.mem_range, List.mem_filter, atP, decide_eq_true_eq]
    constructor
    · rintro ⟨p, _, h1, _⟩; exact h1
    · intro h1
      have h2 := h.1 m h1
      unfold mok at h2; rw [Bool.and_eq_true] at h2
      have h3 := pidx_spec h2.1
      exact ⟨_, h3.1, h1, h3.2.symm⟩
  funext p
  unfold piH nmd
  rw [decide_eq_decide, List.mem_flatMap, List.mem_flatMap]
  constructor
  · rintro ⟨m, h1, h2⟩; exact ⟨m, (hx m).1 h1, h2⟩
  · rintro ⟨m, h1, h2⟩; exact ⟨m, (hx m).2 h1, h2⟩
theorem nmB_snoc (l : List Mv) (m : Mv) : nmB l ++ (m.1 ++ m.2) = nmB (l ++ [m]) := by
  apply ByteArray.ext
  rw [ByteArray.data_append, ByteArray.data_append, nmB, nmB, nmd_snoc]
  simp
theorem mv_size {xs : List Mv} (h : MV xs) : ∀ m ∈ mvT (tabOf xs) (List.range 9), m.1.size = 1 ∧ m.2.size = 1 := by
  intro m hm
  rw [← sortM_mvT h, sortM, if_pos (by simpa [mvalid] using h), sortO] at hm
  obtain ⟨p, _, h1⟩ := List.mem_flatMap.1 hm
  have h2 := h.1 m (List.mem_filter.1 h1).1
  unfold mok at h2; rw [Bool.and_eq_true] at h2
  exact ⟨isP_size h2.1, isS_size h2.2⟩
theorem nmB_len {l : List Mv} (h : ∀ m ∈ l, m.1.size = 1 ∧ m.2.size = 1) : (nmB l).size ≤ 2 * l.length := by
  have : (nmB l).size = (nmd l).length := by simp [nmB, ByteArray.size]
  rw [this]
  induction l with
  | nil => exact Nat.le_refl _
  | cons m l ih =>
    have h1 := h m (by simp)
    have h2 := ih (fun x hx => h x (by simp [hx])) (by simp [nmB, ByteArray.size])
    have e : nmd (m :: l) = m.1.data.toList ++ m.2.data.toList ++ nmd l := by simp [nmd]
    rw [e, List.length_append, List.length_append, size_data, size_data, List.length_cons]
    omega
end Go.PM
namespace Go.Proofs.YtnhncbhhlbcieaaGreat
open Go.RowKit Go.PM
attribute [local go_sem] Oper.semAt_some

set_option maxRecDepth 100000 in
set_option maxHeartbeats 2000000 in
/-- To and From of the moves of a table -/
theorem tnames_c (t : Nat → ByteArray) (ht : ∀ m ∈ mvT t (List.range 9), m.1.size = 1 ∧ m.2.size = 1) (w : World) :
    Calls Tryz.prog 43 #[tabX t] w fun e w' => e = .returned (.string (nmB (mvT t (List.range 9)))) ∧ Below w.heap.size w w' := by
  have HNS := Lib.hid nmB_snoc
  refine (callsIn_wide (n := 5)).1 ?_
  refine callsIn_of_wp_marks Tryz.func43 rfl trivial ?_ rfl
  simp only [Tryz.ntmps43, List.size_toArray, List.length_cons, List.length_nil, Nat.reduceAdd, Nat.reduceSub, Array.replicate_succ, Array.replicate_zero, List.push_toArray, List.append_toArray, List.nil_append, List.cons_append]
  gi_wp2
  obtain ⟨W0, hW0⟩ : ∃ W0 : World, W0 = (w.alloc (.cells (tabA t) 72)).alloc (.cells #[.string ⟨#[]⟩] 9) := ⟨_, rfl⟩
  have hS0 : W0.heap.size = w.heap.size + 2 := by rw [hW0]; simp only [World.size_alloc]
  have hB0 : Below w.heap.size w W0 := by rw [hW0]; (repeat' (first | (with_reducible exact Below.refl _ _) | (with_reducible assumption) | (with_reducible refine Below.alloc ?_ ?_ _) | (with_reducible refine Below.drew ?_) | (with_reducible refine Below.setCell ?_ ?_ _) | (with_reducible exact Nat.le_refl _) | omega | ((repeat (first | rewrite [World.size_alloc] | rewrite [World.size_setCell] | rewrite [World.size_drew])); omega) | (simp; omega) | (simp; done)))
  have hA0 : At W0 (w.heap.size + 1) 9 #[.string ⟨#[]⟩] := by
    rw [hW0]; have := At.new (w.alloc (.cells (tabA t) 72)) 9 #[.string ⟨#[]⟩]
    rwa [World.size_alloc] at this
  rw [← hW0]
  clear hW0
  refine range_law2 (F := Fence.wide) (gf := 62) (lf := #[tabX t]) (lb := #[]) rfl (by decide) rfl trivial (fun args w => rfl) (encs := fun m : Mv => #[.agg #[.string m.1, .string m.2]]) (xs := mvT t (List.range 9)) (κ := 2)
    (moves_iter t) (fun _ => rfl)
    (fun pre W => At W (w.heap.size + 1) 9 #[.string (nmB pre)] ∧ Below w.heap.size w W)
    (fun _ _ _ => False) ?_ (fun _ => ownFrom_pure _ _) ?_
    (fun m a' W => ∃ b, At W b 56 #[.string m.1, .string m.2] ∧ a' = { tmps := #[tabX t, .pointer (some ⟨w.heap.size, 0, none⟩), .string ⟨#[]⟩, .pointer (some ⟨w.heap.size + 1, 0, none⟩), .pointer (some ⟨b, 0, none⟩), tabX t, .func (.func 62) #[tabX t] #[], .agg #[.string m.1, .string m.2], undef, undef, undef, undef, undef, undef, undef, undef], defers := [] }) ?_ ?_ ?_ ?_ ?_
  · rintro s A A' row ⟨k1, k3⟩ hg hr
    exact ⟨k1.turn hg (fun r e => (hr r e).2), k3.trans (below_grown hg k3.size (fun g e => by have := (hr g e).1; omega))⟩
  · exact ⟨hA0, hB0⟩
  · rintro m a' s A A' row ⟨b, k1, k2⟩ hg hr
    exact ⟨b, k1.turn hg (fun r e => (hr r e).2), k2⟩
  · intro l pre m W K hI hp hsz hK
    obtain ⟨k1, k3⟩ := hI
    have r1 : At (W.alloc (.cells #[.string m.1, .string m.2] 56)) (w.heap.size + 1) 9 #[.string (nmB pre)] ∧ Below w.heap.size w (W.alloc (.cells #[.string m.1, .string m.2] 56)) := ⟨k1.alloc _, k3.alloc k3.size _⟩
    have r2 := At.new W 56 #[.string m.1, .string m.2]
    have r3 : KeepsNew W0.heap.size W (W.alloc (.cells #[.string m.1, .string m.2] 56)) := KeepsNew.below ((Below.refl _ _).alloc (Nat.le_refl _) _)
    clear k1 k3
    gi_wp2
    exact hK _ _ r3 r1 ⟨_, r2, rfl⟩
  · rintro l pre m a' W ⟨k1, k3⟩ ⟨b, q1, rfl⟩ hp hsz
    have hlen := mvT_len t (List.IsPrefix.trans (List.prefix_append pre [m]) hp)
    have hz1 := ht m (hp.mem (List.mem_append_right _ (List.mem_singleton_self m)))
    have hz2 := nmB_len (l := pre) (fun x hx => ht x (hp.mem (List.mem_append_left _ hx)))
    have hzz : (nmB pre).size ≤ 18 := by omega
    have hz3 := hz1.1
    have hz4 := hz1.2
    clear hz1 hz2
    have c1 : W.cell? ⟨b, 0, none⟩ = some (.string m.1) := q1.cell 0
    have c2 : W.cell? ⟨b, 1, none⟩ = some (.string m.2) := q1.cell 1
    have c3 : W.cell? ⟨w.heap.size + 1, 0, none⟩ = some (.string (nmB pre)) := k1.cell 0
    have f3 := k1.frozen 0
    have hl1 := k1.lt
    have m1 : At (W.setCell ⟨w.heap.size + 1, 0, none⟩ (.string (nmB pre ++ (m.1 ++ m.2)))) (w.heap.size + 1) 9 #[.string (nmB pre ++ (m.1 ++ m.2))] := k1.set 0 _
    rw [HNS.out pre m] at m1
    have HE := Lib.hid (HNS.out pre m)
    have hb3 := k3.size
    clear q1 hp
    have HT2 : Hid (nmB (pre ++ [m]) = nmB (pre ++ [m])) := rfl
    revert HT2
    generalize hq2 : nmB (pre ++ [m]) = t2 at m1 HE
    intro HT2
    have HT3 := Lib.hid hq2
    clear HT2 hq2
    generalize m.1 = x1 at *
    generalize m.2 = x2 at *
    generalize nmB pre = t1 at *
    gi_wp2
    rw [HE.out]
    refine ⟨(KeepsOthers.setCell _ _ _).from _, ⟨by simp [World.size_setCell], fun x hx1 hx2 => heap_setCell_other _ _ _ _ (by simp; omega)⟩, ?_, k3.setCell (by simp) _⟩
    rw [HT3.out]
    exact m1
  · intro D W hD hI hd
    obtain ⟨k1, k3⟩ := hI
    have c3 : W.cell? ⟨w.heap.size + 1, 0, none⟩ = some (.string (nmB (mvT t (List.range 9)))) := k1.cell 0
    clear k1
    gi_wp2
    refine ⟨by simp, .inl ⟨D, _, rfl, run_takeDeferred hd, ?_⟩⟩
    exact ⟨_, results_tmp rfl _ _ _, rfl, k3.trans ⟨rfl, rfl, rfl, by simp [World.putObj], fun k hk => World.putObj_heap_other (by have := k3.size; omega)⟩⟩
  · intro _ _ _ _ _ _ hf
    exact hf.elim
def plcs (xs : List Mv) : ByteArray := namesW (piH xs)
set_option maxRecDepth 100000 in
set_option maxHeartbeats 1000000 in
theorem imPlacesIn_c (xs : List Mv) (v : Value) (w : World) (hx : RdM w v xs) :
    Calls Tryz.prog 14 #[v] w fun e w' => e = .returned (.tuple #[.string (okS (mvalid xs) (plcs xs)), .bool (mvalid xs)]) ∧ Below w.heap.size w w' := by
  have HO : Hid (∀ b s, okS b s = if b then s else ⟨#[]⟩) := fun _ _ => rfl
  by_cases h1 : MV xs
  · have HT := Lib.hid (tableOf_yes xs h1 v w hx)
    have HM := Lib.hid (show mvalid xs = true by simpa [mvalid] using h1)
    have HN := Lib.hid (fun W => tnames_c (tabOf xs) (mv_size h1) W)
    have HPL := Lib.hid (fun W => namesIn_c ⟨#[97, 98, 99, 100, 101, 102, 65, 66, 67]⟩ (nmB (mvT (tabOf xs) (List.range 9))) (by decide) W)
    have HPE : Hid (pickB (ByteArray.mk #[97, 98, 99, 100, 101, 102, 65, 66, 67]).data.toList (inTx (ByteArray.mk #[97, 98, 99, 100, 101, 102, 65, 66, 67]).data.toList (nmB (mvT (tabOf xs) (List.range 9))).data.toList) (ByteArray.mk #[97, 98, 99, 100, 101, 102, 65, 66, 67]).size = plcs xs) := by
      show _ = _
      have e : inTx placesL (nmB (mvT (tabOf xs) (List.range 9))).data.toList = piH (mvT (tabOf xs) (List.range 9)) := by funext p; simp [inTx, piH, nmB]
      show pickB placesL (inTx placesL (nmB (mvT (tabOf xs) (List.range 9))).data.toList) 9 = plcs xs
      rw [e, nmd_sort h1]; rfl
    clear h1 hx
    generalize tabOf xs = t at *
    generalize nmB (mvT t (List.range 9)) = nt at *
    go_enter Tryz.func14, Tryz.ntmps14
    go_wp2_with fail
    refine HT.out.mono ?_
    rintro e w1 ⟨rfl, hb1⟩
    have hs1 := hb1.size
    go_wp2_with fail
    refine (HN.out _).mono ?_
    rintro e w2 ⟨rfl, hb2⟩
    have hb3 := (hb1.alloc hs1 (.cells (tabA t) 72)).trans (hb2.mono (by simp; omega))
    clear hb2
    go_wp2_with (go_at_call 42; refine (HPL.out _).mono ?_; rintro e w' ⟨rfl, rfl⟩)
    go_ret2
    exact ⟨by rw [HM.out, HO.out, ← HPE.out]; rfl, hb3⟩
  · have HM := Lib.hid (show mvalid xs = false by simpa [mvalid] using h1)
    have HT := Lib.hid (tableOf_no xs h1 v w hx)
    clear h1 hx
    go_enter Tryz.func14, Tryz.ntmps14
    go_wp2_with fail
    refine HT.out.mono ?_
    rintro e w1 ⟨rfl, hb1⟩
    have hs1 := hb1.size
    go_wp2
    go_ret2
    exact ⟨by rw [HM.out, HO.out]; rfl, by (repeat' (first | (with_reducible exact Below.refl _ _) | (with_reducible assumption) | (with_reducible refine Below.alloc ?_ ?_ _) | (with_reducible refine Below.drew ?_) | (with_reducible refine Below.setCell ?_ ?_ _) | (with_reducible exact Nat.le_refl _) | omega | ((repeat (first | rewrite [World.size_alloc] | rewrite [World.size_setCell] | rewrite [World.size_drew])); omega) | (simp; omega) | (simp; done)))⟩
end Go.Proofs.YtnhncbhhlbcieaaGreat
namespace Go.Proofs.YtnhncbhhlbcieaaGreat
open Go.RowKit Go.PM

set_option maxRecDepth 100000 in
set_option maxHeartbeats 2000000 in
theorem spPlacesIn_c (xs : List Mv) (v : Value) (w : World) (hx : RdM w v xs) (hz : ∀ m ∈ xs, m.1.size ≤ 9223372036854775807 ∧ m.2.size ≤ 9223372036854775807) (hn' : xs.length ≤ 1048576) :
    Calls Tryz.prog 50 #[v] w fun e w' => e = .returned (.tuple #[.string (okS (mvalid xs) (plcs xs)), .bool (mvalid xs)]) ∧ Below w.heap.size w w' := by
  have HO : Hid (∀ b s, okS b s = if b then s else ⟨#[]⟩) := fun _ _ => rfl
  have HN : Hid (∀ q, q < 9 → (ByteArray.mk #[97, 98, 99, 100, 101, 102, 65, 66, 67]).extract q (q+1) = nm q) := by
    show ∀ q, _
    intro q hq
    match q, hq with
    | 0, _ | 1, _ | 2, _ | 3, _ | 4, _ | 5, _ | 6, _ | 7, _ | 8, _ => decide +kernel
  by_cases h1 : MV xs
  · have hm : mvalid xs = true := by simpa [mvalid] using h1
    have HF := Lib.hid (fun p => inM_full h1 p)
    have HIS := Lib.hid (fun p k hk => inM_succ xs p k hk)
    have HMM := Lib.hid hm
    clear h1 hm
    go_enter Tryz.func50, Tryz.ntmps50
    go_wp2_with fail
    refine (spMovesValid_c xs v _ hx hz hn').mono ?_
    rintro e w1 ⟨rfl, hb1⟩
    rw [HMM.out]
    have hs1 := hb1.size
    have hx1 := hx.below hb1
    obtain ⟨A, cap, rfl, hn, hc, hcell⟩ := hx1.open
    clear hx1
    go_wp2
    go_loopw [4, 12] (fun o i wr => ∃ (k : Nat), k ≤ 9 ∧ i = .int .i64 k ∧ o = .string (namesS (piH xs) k) ∧ Below w1.heap.size w1 wr) (fun _ i _ => 9 - (intOf i).toNat)
    case atStart => exact ⟨0, by omega, rfl, rfl, Below.refl _ _⟩
    case round =>
      obtain ⟨k, hk, rfl, rfl, hb⟩ := hrel
      have hbs := hb.size
      by_cases hlt : k < 9
      · have hex := HN.out k hlt
        have hsz := namesS_size (piH xs) k
        have hns : (nm k).size = 1 := rfl
        have HY := Lib.hid (namesS_yes (piH xs) k)
        have HZ := Lib.hid (namesS_no (piH xs) k)
        have HFk := Lib.hid (HF.out k)
        have HISk := Lib.hid (HIS.out k)
        have HI0 := Lib.hid (inM_zero xs k)
        generalize namesS (piH xs) k = tk at *
        go_wp2
        go_loopw [6, 17] (fun o i wr => ∃ (j : Nat), j ≤ xs.length ∧ i = .int .i64 j ∧ o = .bool (inM xs k j) ∧ Below w1.heap.size w1 wr) (fun _ i _ => xs.length - (intOf i).toNat)
        case atStart => exact ⟨0, by omega, rfl, by rw [HI0.out], hb⟩
        case round =>
          obtain ⟨j, hj, rfl, rfl, hb⟩ := hrel
          have hbs := hb.size
          by_cases hlt2 : j < xs.length
          · obtain ⟨b, off, rfl, hbl, hc1, hc2⟩ := hcell j hlt2
            have hd1 := (hb.cell (p := ⟨b, off + j * 2, none⟩) hbl).trans hc1
            have hd2 := (hb.cell (p := ⟨b, off + j * 2 + 1, none⟩) hbl).trans hc2
            clear hc1 hc2 hcell
            have hst := HISk.out j hlt2
            generalize xs[j].1 = x1 at *
            generalize xs[j].2 = x2 at *
            have HS := Lib.hid hst
            clear hst
            have hxa : ∀ x : Ext (wr.heap.size + 1) (wr.alloc (.cells #[.string x1, .string x2] 56)), x.val.cell? ⟨wr.heap.size, 0, none⟩ = some (.string x1) := fun x =>
              (x.property.cell (p := ⟨wr.heap.size, 0, none⟩) (by simp)).trans ((At.new wr 56 #[.string x1, .string x2]).cell 0)
            have hxb : ∀ x : Ext (wr.heap.size + 1) (wr.alloc (.cells #[.string x1, .string x2] 56)), x.val.cell? ⟨wr.heap.size, 1, none⟩ = some (.string x2) := fun x =>
              (x.property.cell (p := ⟨wr.heap.size, 1, none⟩) (by simp)).trans ((At.new wr 56 #[.string x1, .string x2]).cell 1)
            generalize inM xs k j = rj at *
            rcases rj with _ | _
            · rcases Bool.eq_false_or_eq_true (x1.toList == (nm k).toList) with hd | hd
              · have HD : Hid (x1 = nm k) := by rw [beq_str, decide_eq_true_eq] at hd; exact hd
                go_wp2
                refine wp_region_ext (wr.heap.size + 1) (by kernel_rfl) (by kernel_rfl) ?_
                repeat (go_big_quiet_step (fail))
                refine wpQuiet_nil ?_
                intro w2 hw'
                obtain ⟨xw, hxw⟩ := hw'
                have hb2 := xw.property
                rw [← hxw] at hb2
                clear hxw xw hxa hxb hd1 hd2
                have hb3 : Below w1.heap.size w1 w2 := (hb.alloc hbs _).trans (hb2.mono (by omega))
                go_wp2
                go_roundw
                case rel =>
                  refine ⟨j + 1, by omega, by go_num, ?_, hb3⟩
                  rw [HS.out]; rw [decide_eq_true HD.out]; rfl
                case measure => simp [intOf]; omega
              · have HD : Hid (x1 ≠ nm k) := by rw [beq_str, decide_eq_false_iff_not] at hd; exact hd
                have HE : Hid ((x2.toList == (nm k).toList) = decide (x2 = nm k)) := beq_str _ _
                go_wp2
                refine wp_region_ext (wr.heap.size + 1) (by kernel_rfl) (by kernel_rfl) ?_
                repeat (go_big_quiet_step (fail))
                refine wpQuiet_nil ?_
                intro w2 hw'
                obtain ⟨xw, hxw⟩ := hw'
                have hb2 := xw.property
                rw [← hxw] at hb2
                clear hxw xw hxa hxb hd1 hd2
                have hb3 : Below w1.heap.size w1 w2 := (hb.alloc hbs _).trans (hb2.mono (by omega))
                go_wp2
                go_roundw
                case rel =>
                  refine ⟨j + 1, by omega, by go_num, ?_, hb3⟩
                  rw [HS.out]; rw [decide_eq_false HD.out, HE.out]; simp
                case measure => simp [intOf]; omega
            · go_wp2
              refine wp_region_ext (wr.heap.size + 1) (by kernel_rfl) (by kernel_rfl) ?_
              repeat (go_big_quiet_step (fail))
              refine wpQuiet_nil ?_
              intro w2 hw'
              obtain ⟨xw, hxw⟩ := hw'
              have hb2 := xw.property
              rw [← hxw] at hb2
              clear hxw xw hxa hxb hd1 hd2
              have hb3 : Below w1.heap.size w1 w2 := (hb.alloc hbs _).trans (hb2.mono (by omega))
              go_wp2
              go_roundw
              case rel =>
                refine ⟨j + 1, by omega, by go_num, ?_, hb3⟩
                rw [HS.out]; simp
              case measure => simp [intOf]; omega
          · have hj' : j = xs.length := by omega
            rw [hj', HFk.out]
            generalize piH xs k = rk at *
            rcases rk with _ | _
            · go_wp2
              go_roundw
              case rel => exact ⟨k + 1, by omega, by go_num, by rw [HZ.out rfl], hb⟩
              case measure => simp [intOf]; omega
            · go_wp2
              go_roundw
              case rel => exact ⟨k + 1, by omega, by go_num, by rw [HY.out rfl], hb⟩
              case measure => simp [intOf]; omega
      · have hk9 : k = 9 := by omega
        subst hk9
        go_wp2
        go_ret2
        exact ⟨by rw [HMM.out, HO.out]; rfl, hb1.trans (hb.mono hs1)⟩
  · have hm : mvalid xs = false := by simpa [mvalid] using h1
    go_enter Tryz.func50, Tryz.ntmps50
    go_wp2_with fail
    refine (spMovesValid_c xs v _ hx hz hn').mono ?_
    rintro e w1 ⟨rfl, hb1⟩
    rw [hm]
    go_wp2
    go_ret2
    exact ⟨by rw [hm, HO.out]; rfl, hb1⟩
end Go.Proofs.YtnhncbhhlbcieaaGreat
namespace Go.PD
open Go.PM Go.RowKit Go.Lib
/-- registers that moves neither read nor write -/
def frP (xs : List Mv) (p : Nat) : Bool := decide (p < 6) && !piH xs p
def frR (xs : List Mv) : ByteArray := namesW (frP xs)
theorem slB_nm (p : Nat) (hp : p < 9) : slB (nm p) = decide (6 ≤ p) := by
  match p, hp with
  | 0, _ | 1, _ | 2, _ | 3, _ | 4, _ | 5, _ | 6, _ | 7, _ | 8, _ => decide +kernel
/-- the registers that do not stand in a text -/
def rfH (t : List UInt8) (p : Nat) : Bool := decide (p < 6) && !decide (placesL.getD p 0 ∈ t)
def rfB (t : List UInt8) (k : Nat) : ByteArray := ⟨(namesL (rfH t) (List.range k)).toArray⟩
theorem rfB_succ (t : List UInt8) (k : Nat) : rfB t (k + 1) = if rfH t k then rfB t k ++ nm k else rfB t k := by
  unfold rfB
  rw [List.range_succ]
  cases h : rfH t k with
  | false => simp [namesL, h]
  | true =>
    apply ByteArray.ext
    rw [if_pos rfl, ByteArray.data_append]
    simp [namesL, h, nm]
theorem rfB_zero (t : List UInt8) : rfB t 0 = ⟨#[]⟩ := rfl
theorem rfB_size (t : List UInt8) (k : Nat) : (rfB t k).size ≤ k := by
  have h1 : (namesL (rfH t) (List.range k)).length ≤ k := by
    simp only [namesL, List.length_map]
    have := List.length_filter_le (rfH t) (List.range k)
    simpa using this
  have e : (rfB t k).size = (namesL (rfH t) (List.range k)).length := by simp [rfB, ByteArray.size]
  omega
theorem rfB_full (t : List UInt8) : rfB t 6 = namesW (rfH t) := by
  unfold rfB namesW namesL
  congr 2
theorem rfH_eq (t : List UInt8) (p : Nat) (hp : p < 6) : rfH t p = decide (indexByte t (placesL.getD p 0) < 0) := by
  unfold rfH
  rw [decide_eq_true hp, Bool.true_and]
  have := indexByte_mem t (placesL.getD p 0)
  by_cases h : placesL.getD p 0 ∈ t
  · rw [decide_eq_true h, decide_eq_false (by have := this.2 h; omega)]; rfl
  · rw [decide_eq_false h, decide_eq_true (by have : ¬ 0 ≤ indexByte t (placesL.getD p 0) := fun e => h (this.1 e); omega)]; rfl
end Go.PD
namespace Go.Proofs.YtnhncbhhlbcieaaGreat
open Go.RowKit Go.PM Go.PD Go.Lib

theorem plcs_mem (xs : List Mv) (p : Nat) (hp : p < 9) : placesL.getD p 0 ∈ (plcs xs).data.toList ↔ piH xs p = true := by
  have hinj : ∀ q, q < 9 → placesL.getD q 0 = placesL.getD p 0 → q = p := by
    intro q hq e
    have : nm q = nm p := by unfold nm; rw [e]
    exact nm_inj hq hp this
  unfold plcs namesW namesL
  rw [List.toList_toArray, List.mem_map]
  constructor
  · rintro ⟨q, hq, e⟩
    rw [List.mem_filter, List.mem_range] at hq
    rw [← hinj q hq.1 e]; exact hq.2
  · intro h
    exact ⟨p, by rw [List.mem_filter, List.mem_range]; exact ⟨hp, h⟩, rfl⟩
theorem frP_eq (xs : List Mv) (p : Nat) (hp : p < 9) : frP xs p = (!slB (nm p) && !decide (placesL.getD p 0 ∈ (plcs xs).data.toList)) := by
  have h1 := slB_nm p hp
  have h2 : decide (placesL.getD p 0 ∈ (plcs xs).data.toList) = piH xs p := by
    rw [Bool.eq_iff_iff, decide_eq_true_eq]; exact plcs_mem xs p hp
  rw [h1, h2, frP]
  congr 1
  by_cases h : p < 6
  · rw [decide_eq_true h, decide_eq_false (by omega)]; rfl
  · rw [decide_eq_false h, decide_eq_true (by omega)]; rfl
theorem rfB_frR (xs : List Mv) : rfB (plcs xs).data.toList 6 = frR xs := by
  rw [rfB_full, frR]
  refine namesW_congr fun p hp => ?_
  unfold rfH frP
  have h2 : decide (placesL.getD p 0 ∈ (plcs xs).data.toList) = piH xs p := by
    rw [Bool.eq_iff_iff, decide_eq_true_eq]; exact plcs_mem xs p hp
  rw [h2]
set_option maxRecDepth 100000 in
set_option maxHeartbeats 1600000 in
theorem freeReg1_c (xs : List Mv) (b : Nat) (p : Nat) (hp : p < 9) (w : World) (hA : At w b 9 #[.string (plcs xs)]) :
    Calls Tryz.prog 36 #[.int .i64 p, .pointer (some ⟨b, 0, none⟩)] w fun e w' => e = .returned (.bool (frP xs p)) ∧ Below w.heap.size w w' := by
  have HF := Lib.hid (frP_eq xs p hp)
  have HN := Lib.hid (fun W => name_c p hp W)
  have HS := Lib.hid (fun W => isSlot_c (nm p) W)
  have HC := Lib.hid (fun W => (Tryz.strings_Contains_one (plcs xs) (placesL.getD p 0) W).mono (R' := fun e w' => e = .returned (.bool (decide (placesL.getD p 0 ∈ (plcs xs).data.toList))) ∧ W = w') fun _ _ ⟨e1, e2⟩ => ⟨by
        rw [e1]; congr 2; simp only [indexByte_mem], e2.symm⟩)
  have HNM : Hid ((⟨#[placesL.getD p 0]⟩ : ByteArray) = nm p) := rfl
  rw [HNM.out] at HC
  have hlt := hA.lt
  have hCx : ∀ x : Ext w.heap.size w, x.val.cell? ⟨b, 0, none⟩ = some (.string (plcs xs)) := fun x => (x.property.cell (p := ⟨b, 0, none⟩) hlt).trans (hA.cell 0)
  generalize decide (placesL.getD p 0 ∈ (plcs xs).data.toList) = dd at *
  generalize nm p = q at *
  generalize plcs xs = t at *
  cases hs : slB q with
  | true =>
    rw [hs] at HS
    go_enter Tryz.func36, Tryz.ntmps36
    go_wp2
    refine wp_region_ext w.heap.size (by kernel_rfl) (by kernel_rfl) ?_
    repeat (go_big_quiet_step (first | (go_at_call 38; exact ext_same _ (HN.out _)) | (go_at_call 37; exact ext_same _ (HS.out _))))
    refine wpQuiet_nil ?_
    intro w2 hw'
    obtain ⟨xw, hxw⟩ := hw'
    have hb2 := xw.property
    rw [← hxw] at hb2
    clear hxw xw
    go_wp2
    go_ret
    exact ⟨by rw [HF.out, hs]; rfl, hb2⟩
  | false =>
    rw [hs] at HS
    go_enter Tryz.func36, Tryz.ntmps36
    go_wp2
    refine wp_region_ext w.heap.size (by kernel_rfl) (by kernel_rfl) ?_
    repeat (go_big_quiet_step (first | (go_at_call 38; exact ext_same _ (HN.out _)) | (go_at_call 37; exact ext_same _ (HS.out _)) | (go_at_call 39; exact ext_same _ (HC.out _))))
    refine wpQuiet_nil ?_
    intro w2 hw'
    obtain ⟨xw, hxw⟩ := hw'
    have hb2 := xw.property
    rw [← hxw] at hb2
    clear hxw xw
    go_wp2
    go_ret
    exact ⟨by rw [HF.out, hs]; rfl, hb2⟩
set_option maxRecDepth 100000 in
set_option maxHeartbeats 1600000 in
theorem imFreeRegisters_c (xs : List Mv) (v : Value) (w : World) (hx : RdM w v xs) :
    Calls Tryz.prog 11 #[v] w fun e w' => e = .returned (.tuple #[.string (okS (mvalid xs) (frR xs)), .bool (mvalid xs)]) ∧ Below w.heap.size w w' := by
  have HPL := Lib.hid (imPlacesIn_c xs v w hx)
  have HO : Hid (∀ b s, okS b s = if b then s else ⟨#[]⟩) := fun _ _ => rfl
  rcases Bool.eq_false_or_eq_true (mvalid xs) with h1 | h1
  · rw [h1, HO.out] at HPL
    have H1 := Lib.hid h1
    clear h1
    go_enter Tryz.func11, Tryz.ntmps11
    go_wp2_with fail
    refine HPL.out.mono ?_
    rintro e w1 ⟨rfl, hb1⟩
    simp only [if_true]
    have hA1 := At.new w1 9 #[.string (plcs xs)]
    have hBA : Below w1.heap.size w1 (w1.alloc (.cells #[.string (plcs xs)] 9)) := (Below.refl _ _).alloc (Nat.le_refl _) _
    have HNW := Lib.hid (names_c 36 #[.pointer (some ⟨w1.heap.size, 0, none⟩)] (frP xs) (w1.alloc (.cells #[.string (plcs xs)] 9)) (fun _ _ => rfl) (fun p hp W hW => freeReg1_c xs w1.heap.size p hp W (hA1.keep hW)))
    go_wp2_with fail
    refine HNW.out.mono ?_
    rintro e w2 ⟨rfl, hb2⟩
    have hB := hb1.trans ((hBA.trans (hb2.mono hBA.size)).mono hb1.size)
    clear hb2 hBA HNW hA1
    go_wp2
    go_ret2
    exact ⟨by rw [H1.out]; rfl, hB⟩
  · rw [h1, HO.out] at HPL
    have H1 := Lib.hid h1
    clear h1
    go_enter Tryz.func11, Tryz.ntmps11
    go_wp2_with fail
    refine HPL.out.mono ?_
    rintro e w1 ⟨rfl, hb1⟩
    go_wp2
    go_ret2
    exact ⟨by rw [H1.out]; rfl, hb1.alloc hb1.size _⟩
set_option maxRecDepth 100000 in
set_option maxHeartbeats 2000000 in
theorem l8Free_c (xs : List Mv) (v : Value) (w : World) (hx : RdM w v xs) (hz : ∀ m ∈ xs, m.1.size ≤ 9223372036854775807 ∧ m.2.size ≤ 9223372036854775807) (hn' : xs.length ≤ 1048576) :
    Calls Tryz.prog 21 #[v] w fun e w' => e = .returned (.string (rfB (okS (mvalid xs) (plcs xs)).data.toList 6)) ∧ Below w.heap.size w w' := by
  have HP := Lib.hid (spPlacesIn_c xs v w hx hz hn')
  have HTZ : (okS (mvalid xs) (plcs xs)).size ≤ 9223372036854775807 := by
    unfold okS
    split
    · have : (plcs xs).size ≤ 9 := by
        unfold plcs namesW
        have h1 : (namesL (piH xs) (List.range 9)).length ≤ 9 := by
          simp only [namesL, List.length_map]
          have := List.length_filter_le (piH xs) (List.range 9)
          simpa using this
        simpa [ByteArray.size] using h1
      omega
    · decide
  generalize okS (mvalid xs) (plcs xs) = t at *
  have HF := Lib.hid (fun c W => l13Find_c t c W HTZ)
  have HS := Lib.hid (fun k => rfB_succ t.data.toList k)
  have HZ := Lib.hid (fun k => rfB_size t.data.toList k)
  have HE := Lib.hid (fun k hk => rfH_eq t.data.toList k hk)
  have H0 := Lib.hid (rfB_zero t.data.toList)
  generalize t.data.toList = tl at *
  go_enter Tryz.func21, Tryz.ntmps21
  go_wp2_with fail
  refine HP.out.mono ?_
  rintro e w1 ⟨rfl, hb1⟩
  go_wp2
  go_loopw [3, 12] (fun o i wr => ∃ (k : Nat), k ≤ 6 ∧ i = .int .i64 k ∧ o = .string (rfB tl k) ∧ Below w1.heap.size w1 wr) (fun _ i _ => 6 - (RowKit.intOf i).toNat)
  case atStart => exact ⟨0, by omega, rfl, by rw [H0.out], Below.refl _ _⟩
  case round =>
    obtain ⟨k, hk, rfl, rfl, hb⟩ := hrel
    by_cases hlt : k < 6
    · have hs := HS.out k
      have hz := HZ.out k
      have he := HE.out k hlt
      have hFk := Lib.hid (fun W => HF.out (placesL.getD k 0) W)
      have hnz : (nm k).size = 1 := rfl
      generalize indexByte tl (placesL.getD k 0) = zz at *
      generalize hn1 : rfB tl (k + 1) = nx at *
      generalize rfB tl k = cur at *
      by_cases hneg : zz < 0
      · rw [decide_eq_true hneg] at he
        rw [he, if_pos rfl] at hs
        have hs2 := Lib.hid (hn1.trans hs)
        have hsz : cur.size + (nm k).size ≤ 10 := by omega
        have hcs : k = 0 ∨ k = 1 ∨ k = 2 ∨ k = 3 ∨ k = 4 ∨ k = 5 := by omega
        clear hs hn1 he
        rcases hcs with rfl | rfl | rfl | rfl | rfl | rfl
        all_goals
          go_wp2_with (go_at_call 51; refine (hFk.out _).mono ?_; rintro e w' ⟨rfl, rfl⟩)
          go_roundw
          case rel => first | exact ⟨1, by decide, rfl, by rw [hs2.out]; rfl, hb⟩ | exact ⟨2, by decide, rfl, by rw [hs2.out]; rfl, hb⟩ | exact ⟨3, by decide, rfl, by rw [hs2.out]; rfl, hb⟩ | exact ⟨4, by decide, rfl, by rw [hs2.out]; rfl, hb⟩ | exact ⟨5, by decide, rfl, by rw [hs2.out]; rfl, hb⟩ | exact ⟨6, by decide, rfl, by rw [hs2.out]; rfl, hb⟩
          case measure => simp [RowKit.intOf]
      · rw [decide_eq_false hneg] at he
        rw [he] at hs
        have hs2 := Lib.hid (hn1.trans hs)
        have hcs : k = 0 ∨ k = 1 ∨ k = 2 ∨ k = 3 ∨ k = 4 ∨ k = 5 := by omega
        clear hs hn1 he
        rcases hcs with rfl | rfl | rfl | rfl | rfl | rfl
        all_goals
          go_wp2_with (go_at_call 51; refine (hFk.out _).mono ?_; rintro e w' ⟨rfl, rfl⟩)
          go_roundw
          case rel => first | exact ⟨1, by decide, rfl, by rw [hs2.out]; rfl, hb⟩ | exact ⟨2, by decide, rfl, by rw [hs2.out]; rfl, hb⟩ | exact ⟨3, by decide, rfl, by rw [hs2.out]; rfl, hb⟩ | exact ⟨4, by decide, rfl, by rw [hs2.out]; rfl, hb⟩ | exact ⟨5, by decide, rfl, by rw [hs2.out]; rfl, hb⟩ | exact ⟨6, by decide, rfl, by rw [hs2.out]; rfl, hb⟩
          case measure => simp [RowKit.intOf]
    · have hk' : k = 6 := by omega
      subst hk'
      go_wp2
      go_ret
      exact ⟨rfl, hb1.trans (hb.mono hb1.size)⟩
set_option maxHeartbeats 800000 in
theorem spFreeRegisters_c (xs : List Mv) (v : Value) (w : World) (hx : RdM w v xs) (hz : ∀ m ∈ xs, m.1.size ≤ 9223372036854775807 ∧ m.2.size ≤ 9223372036854775807) (hn' : xs.length ≤ 1048576) :
    Calls Tryz.prog 12 #[v] w fun e w' => e = .returned (.tuple #[.string (okS (mvalid xs) (frR xs)), .bool (mvalid xs)]) ∧ Below w.heap.size w w' := by
  have HV := Lib.hid (spMovesValid_c xs v w hx hz hn')
  have HFR := Lib.hid (fun W (hW : Below w.heap.size w W) => l8Free_c xs v W (hx.below hW) hz hn')
  have HO : Hid (∀ b s, okS b s = if b then s else ⟨#[]⟩) := fun _ _ => rfl
  have HE := Lib.hid (rfB_frR xs)
  rcases Bool.eq_false_or_eq_true (mvalid xs) with h1 | h1
  · rw [h1, HO.out] at HFR
    have H1 := Lib.hid h1
    clear h1
    go_enter Tryz.func12, Tryz.ntmps12
    go_wp2_with fail
    refine HV.out.mono ?_
    rintro e w1 ⟨rfl, hb1⟩
    rw [H1.out]
    have hs1 := hb1.size
    have hfr := HFR.out _ hb1
    simp only [if_true] at hfr
    rw [HE.out] at hfr
    have HFF := Lib.hid hfr
    clear hfr
    go_wp2_with fail
    refine HFF.out.mono ?_
    rintro e w2 ⟨rfl, hb2⟩
    go_wp2
    go_ret2
    exact ⟨by rw [H1.out]; rfl, hb1.trans (hb2.mono hs1)⟩
  · have H1 := Lib.hid h1
    clear h1
    go_enter Tryz.func12, Tryz.ntmps12
    go_wp2_with fail
    refine HV.out.mono ?_
    rintro e w1 ⟨rfl, hb1⟩
    rw [H1.out]
    go_wp2
    go_ret2
    exact ⟨by rw [H1.out]; rfl, hb1⟩
end Go.Proofs.YtnhncbhhlbcieaaGreat
namespace Go.Proofs.YtnhncbhhlbcieaaGreat
open Go.RowKit Go.PM Go.PD
attribute [local go_sem] Oper.semAt_some

set_option maxRecDepth 100000 in
set_option maxHeartbeats 3200000 in
theorem drawWithFree_c (w : World) (v : Value) (n : Nat) (hv : RdB w w.heap.size v n) :
    Calls Tryz.prog 4 #[v] w fun e w' => ∃ u xs s, e = .returned (.tuple #[u, .string s]) ∧ w'.ownsRow w.heap.size 58 3 u xs.length (scells xs) ∧ shS 70 xs ∧ s.size ≤ 40 ∧ Below w.heap.size w w' := by
  have HO := Lib.hid (l13Open_c w v n hv)
  go_enter Tryz.func4, Tryz.ntmps4
  go_wp2_with fail
  refine HO.out.mono ?_
  rintro e w1 ⟨r, rfl, R1, b1⟩
  have hs1 := b1.size
  have hB := R1.1
  have HS := Lib.hid (l8Some_c w1 _ r 0 R1 (by omega))
  go_wp2_with fail
  refine HS.out.mono ?_
  rintro e w2 ⟨u, xs, p', rfl, ho, ⟨hxl, hxz⟩, R2, hp, g2⟩
  have hlt : r < w1.heap.size := by obtain ⟨_, _, v, n, _, _, h⟩ := R1; exact h.lt
  have hrd := Rd.of_own ho
  have b2 : Below w.heap.size w w2 := b1.trans (below_grown g2 hs1 (fun g e => by cases e; exact hB))
  have hs2 := b2.size
  have hs12 := g2.size
  have hz : ∀ m ∈ xs, m.1.size ≤ 9223372036854775807 ∧ m.2.size ≤ 9223372036854775807 := fun m hm => by have := hxz m hm; omega
  have HOD := Lib.hid (spOrderDirect_c xs u w2 hrd hz (by omega))
  have HFR := Lib.hid (fun W (hW : Below w2.heap.size w2 W) => l8Free_c xs u W (RdM.below hrd hW) hz (by omega))
  have HSH : Hid (shS 70 (odS xs)) := by
    show shS 70 (odS xs)
    unfold odS
    split
    · next h => rw [← mdS_yes (ord_md h)]; exact mdS_sh
    · exact ⟨by simp, by simp⟩
  have HRZ := Lib.hid (rfB_size (okS (mvalid xs) (plcs xs)).data.toList 6)
  clear HO HS ho hxz g2 b1 R1 hrd hz
  go_wp2_with fail
  refine HOD.out.mono ?_
  rintro e w3 ⟨u3, rfl, ho3, hb3⟩
  have R3 := R2.keep hb3
  have b3 := b2.trans (hb3.mono hs2)
  have hs3 := b3.size
  have hs23 := hb3.size
  have hne3 : u3.ownBlock ≠ some r := fun e => by have := own_block_ge ho3 r e; omega
  have ho4 := own_more ho3 hs2
  have HFR2 := Lib.hid (HFR.out w3 hb3)
  clear HOD ho3 b2 R2 hb3 HFR
  go_wp2_with fail
  refine HFR2.out.mono ?_
  rintro e w4 ⟨rfl, hb4⟩
  have R4 := R3.keep hb4
  have b4 := b3.trans (hb4.mono hs3)
  have hs4 := b4.size
  have hs34 := hb4.size
  have ho5 := own_keep ho4 hb4
  clear HFR2 ho4 b3 R3 hb4
  have hfz := HRZ.out
  generalize rfB (okS (mvalid xs) (plcs xs)).data.toList 6 = free at *
  generalize odS xs = ys at *
  generalize mvalid xs = mv at *
  cases mv with
  | false =>
    have HST := Lib.hid (l8Steps_c w4 _ r p' R4 (by omega))
    go_wp2_with fail
    refine HST.out.mono ?_
    rintro e w5 ⟨u5, zs, p5, rfl, ho6, hsh, R5, hp5, g5⟩
    have HSZ := Lib.hid hsh
    have ho7 := own_more ho6 hs4
    have hne5 : u5.ownBlock ≠ some r := fun e => by have := own_block_ge ho6 r e; omega
    have b5 : Below w.heap.size w w5 := b4.trans (below_grown g5 hs4 (fun g e => by cases e; exact hB))
    have hs5 := b5.size
    have hs45 := g5.size
    clear HST ho6 hsh g5 R4 ho5
    go_wp2_with fail
    refine (of_c _ w.heap.size r w5.heap.size 8 p5 (fun s => s.size ≤ 40) (R5.keep ((Below.refl _ _).alloc (Nat.le_refl _) _)) (by decide) (by decide) (by omega) (Lits.strs _ _ _ 40 (by rfl)) (by omega)).mono ?_
    rintro e w6 ⟨s6, rfl, hz6, R6, g6⟩
    have ho8 := own_grown (own_keep ho7 ((Below.refl _ _).alloc (Nat.le_refl _) _)) g6 (.inl hne5)
    have b6 := (b5.alloc hs5 _).trans (below_grown g6 (by simp; omega) (fun g e => by cases e; exact hB))
    clear g6 R5 ho7 R6
    go_wp2
    go_ret2
    exact ⟨_, zs, s6, rfl, ho8, HSZ.out, hz6, b6⟩
  | true =>
    have HP := Lib.hid (pick_c w4 _ r 5 p' R4 (by omega) (by omega) (by omega))
    go_wp2_with fail
    refine HP.out.mono ?_
    rintro e w4b ⟨k, rfl, k0, k1, R4b, g4b⟩
    have ho5b := own_grown ho5 g4b (.inl hne3)
    have b4b : Below w.heap.size w w4b := b4.trans (below_grown g4b hs4 (fun g e => by cases e; exact hB))
    have hs4b := b4b.size
    have hs4c := g4b.size
    clear HP ho5 g4b R4 b4
    by_cases h0 : k = 0
    · subst h0
      have HST := Lib.hid (l8Steps_c w4b _ r (p' + 1) R4b (by omega))
      go_wp2_with fail
      refine HST.out.mono ?_
      rintro e w5 ⟨u5, zs, p5, rfl, ho6, hsh, R5, hp5, g5⟩
      have HSZ := Lib.hid hsh
      have ho7 := own_more ho6 hs4b
      have hne5 : u5.ownBlock ≠ some r := fun e => by have := own_block_ge ho6 r e; omega
      have b5 : Below w.heap.size w w5 := b4b.trans (below_grown g5 hs4b (fun g e => by cases e; exact hB))
      have hs5 := b5.size
      have hs45 := g5.size
      clear HST ho6 hsh g5 R4b ho5b
      go_wp2_with fail
      refine (of_c _ w.heap.size r w5.heap.size 8 p5 (fun s => s.size ≤ 40) (R5.keep ((Below.refl _ _).alloc (Nat.le_refl _) _)) (by decide) (by decide) (by omega) (Lits.strs _ _ _ 40 (by rfl)) (by omega)).mono ?_
      rintro e w6 ⟨s6, rfl, hz6, R6, g6⟩
      have ho8 := own_grown (own_keep ho7 ((Below.refl _ _).alloc (Nat.le_refl _) _)) g6 (.inl hne5)
      have b6 := (b5.alloc hs5 _).trans (below_grown g6 (by simp; omega) (fun g e => by cases e; exact hB))
      clear g6 R5 ho7 R6
      go_wp2
      go_ret2
      exact ⟨_, zs, s6, rfl, ho8, HSZ.out, hz6, b6⟩
    · have t0 : (k == 0) = false := by simpa using h0
      have HPX := Lib.hid ((pick_c w4b.drew _ r 3 (p' + 1) R4b (by omega) (by omega) (by omega)).mono fun e w' ⟨K, h1, h2, h3, h4, h5⟩ =>
        (⟨K.toNat, by rw [h1]; congr; omega, by omega, own_grown (show w4b.drew.ownsRow w.heap.size 58 3 u3 ys.length (scells ys) from ho5b) h5 (.inl hne3), b4b.drew.trans (below_grown h5 hs4b (fun g e => by cases e; exact hB))⟩ :
          ∃ K : Nat, e = Ending.returned (.int .i64 (K : Int)) ∧ K < 3 ∧ w'.ownsRow w.heap.size 58 3 u3 ys.length (scells ys) ∧ Below w.heap.size w w'))
      clear R4b ho5b b4b
      go_wp2
      go_region_with (go_at_call 22; with_reducible refine HPX.out.mono ?_; rintro e w6 ⟨K, rfl, hK, ho6, b6⟩)
      have HEX : Hid ((free.extract 0 (min (free.size : Int) (K : Int)).toNat).size ≤ 40) := by
        show _ ≤ _
        rw [ByteArray.size_extract]; omega
      generalize free.extract 0 (min (free.size : Int) (K : Int)).toNat = s7 at *
      go_simp
      go_wp2
      go_ret2
      exact ⟨_, ys, s7, rfl, ho6, HSH.out, HEX.out, b6⟩
end Go.Proofs.YtnhncbhhlbcieaaGreat
namespace Go.PD
open Go.PM Go.RowKit Go.Lib
theorem ar_len {xs : List St} {free : List UInt8} (h : arF xs free = true) : free.length ≤ 2 := by
  unfold arF at h
  rw [Bool.and_eq_true, decide_eq_true_eq] at h
  exact h.1.1
theorem frS_len (xs : List St) (free : List UInt8) : (frS xs free).length ≤ 1048576 := by
  unfold frS
  split
  · next h =>
    unfold frOk at h
    rw [Bool.and_eq_true] at h
    have := svalid_len h.1
    simp; omega
  · simp
theorem frX_len (xs : List St) (free : List UInt8) : (xs.map (frX free)).length = xs.length := by simp
def tlB (tb : ByteArray → Bool) (tt : ByteArray → ByteArray) (a : ByteArray) : ByteArray := if tb a then tt a else a
def tlX (tb : ByteArray → Bool) (tt : ByteArray → ByteArray) (x : St) : St := (x.1, tlB tb tt x.2.1, tlB tb tt x.2.2)
theorem tlX_len (tb : ByteArray → Bool) (tt : ByteArray → ByteArray) (xs : List St) : (xs.map (tlX tb tt)).length = xs.length := by simp
theorem grown_cellR (W : World) (b i : Nat) (v : Value) : W.grownBy (W.setCell ⟨b, i, none⟩ v) (some b) :=
  ⟨rfl, rfl, rfl, by simp [World.size_setCell], fun k _ hne => heap_setCell_other W _ k v (fun e => hne (by rw [e]))⟩
/-- whether a name is that of a spare place for which there is a free register -/
def frT (fl : List UInt8) (a : ByteArray) : Bool := decide ((a = ⟨#[116]⟩ ∧ 0 < fl.length) ∨ (a = spU ∧ 1 < fl.length))
def frV (fl : List UInt8) (a : ByteArray) : ByteArray := if frT fl a then frN fl a else ⟨#[]⟩
theorem fr_tl (fl : List UInt8) (a : ByteArray) : tlB (frT fl) (frV fl) a = frN fl a := by
  unfold tlB frV
  rcases Bool.eq_false_or_eq_true (frT fl a) with h | h
  · rw [if_pos h, if_pos h]
  · rw [if_neg (by rw [h]; decide)]
    unfold frT at h
    have h2 := of_decide_eq_false h
    unfold frN
    rw [if_neg (fun e => h2 (.inl e)), if_neg (fun e => h2 (.inr e))]
theorem fr_map (fl : List UInt8) (xs : List St) : xs.map (tlX (frT fl) (frV fl)) = xs.map (frX fl) := by
  refine List.map_congr_left fun x _ => ?_
  unfold tlX frX
  rw [fr_tl, fr_tl]
theorem frT_yes {fl : List UInt8} {a : ByteArray} (h : (a = ⟨#[116]⟩ ∧ 0 < fl.length) ∨ (a = spU ∧ 1 < fl.length)) : frT fl a = true ∧ frV fl a = frN fl a := by
  have e : frT fl a = true := decide_eq_true h
  exact ⟨e, by unfold frV; rw [if_pos e]⟩
theorem frT_no {fl : List UInt8} {a : ByteArray} (h : ¬ ((a = ⟨#[116]⟩ ∧ 0 < fl.length) ∨ (a = spU ∧ 1 < fl.length))) : frT fl a = false ∧ frV fl a = ⟨#[]⟩ := by
  have e : frT fl a = false := decide_eq_false h
  exact ⟨e, by unfold frV; rw [if_neg (by rw [e]; decide)]⟩
end Go.PD
namespace Go.Proofs.YtnhncbhhlbcieaaGreat
open Go.RowKit Go.PM Go.PD Go.Lib

set_option maxHeartbeats 800000 in
theorem tellF_c (p : Nat) (a free : ByteArray) (hs : free.size ≤ 2) (w : World) (hA : At w p 9 #[.string free]) :
    Calls Tryz.prog 27 #[.string a, .pointer (some ⟨p, 0, none⟩)] w fun e w' => e = .returned (.tuple #[.string (frV free.data.toList a), .bool (frT free.data.toList a)]) ∧ Below w.heap.size w w' := by
  have hfl : free.data.toList.length = free.size := size_data free
  have c1 : w.cell? ⟨p, 0, none⟩ = some (.string free) := hA.cell 0
  clear hA
  by_cases ht : a = ⟨#[116]⟩
  · subst ht
    have h5 := fun W => positionIn_yes ⟨#[116, 117]⟩ 116 0 (by decide) W
    by_cases h0 : 0 < free.size
    · have HX := Lib.hid (extract_one free 0 h0)
      have HF := Lib.hid (frN_t (free := free.data.toList) (by omega))
      have HT := Lib.hid (frT_yes (fl := free.data.toList) (a := ⟨#[116]⟩) (.inl ⟨rfl, by omega⟩))
      have t1 : ¬ free = ByteArray.empty := fun e => by rw [e] at h0; exact absurd h0 (by decide)
      have t2 : (1 : Int) ≤ (free.size : Int) := by omega
      clear hfl
      go_enter Tryz.func27, Tryz.ntmps27
      go_wp2_with (go_at_call 28; refine (h5 _).mono ?_; rintro e w' ⟨rfl, rfl⟩)
      go_ret2
      exact ⟨by rw [HT.out.1, HT.out.2, HF.out, ← HX.out]; rfl, Below.refl _ _⟩
    · have HT := Lib.hid (frT_no (fl := free.data.toList) (a := ⟨#[116]⟩) (by rintro (⟨_, h⟩ | ⟨_, h⟩) <;> omega))
      have t1 : free = ByteArray.empty := ByteArray.size_eq_zero_iff.1 (by omega)
      clear hfl
      go_enter Tryz.func27, Tryz.ntmps27
      go_wp2_with (go_at_call 28; refine (h5 _).mono ?_; rintro e w' ⟨rfl, rfl⟩)
      go_ret2
      exact ⟨by rw [HT.out.1, HT.out.2]; rfl, Below.refl _ _⟩
  by_cases hu : a = spU
  · subst hu
    have h5 := fun W => positionIn_yes ⟨#[116, 117]⟩ 117 1 (by decide) W
    by_cases h0 : 1 < free.size
    · have HX := Lib.hid (extract_one free 1 h0)
      have HF := Lib.hid (frN_u (free := free.data.toList) (by omega))
      have HT := Lib.hid (frT_yes (fl := free.data.toList) (a := spU) (.inr ⟨rfl, by omega⟩))
      have t1 : ¬ (free.size : Int) ≤ 1 := by omega
      have t2 : (2 : Int) ≤ (free.size : Int) := by omega
      clear hfl ht
      go_enter Tryz.func27, Tryz.ntmps27
      go_wp2_with (go_at_call 28; refine (h5 _).mono ?_; rintro e w' ⟨rfl, rfl⟩)
      go_ret2
      exact ⟨by rw [HT.out.1, HT.out.2, HF.out, ← HX.out]; rfl, Below.refl _ _⟩
    · have HT := Lib.hid (frT_no (fl := free.data.toList) (a := spU) (by
        rintro (⟨h, _⟩ | ⟨_, h⟩)
        · exact ht h
        · omega))
      have t1 : (free.size : Int) ≤ 1 := by omega
      clear hfl ht
      go_enter Tryz.func27, Tryz.ntmps27
      go_wp2_with (go_at_call 28; refine (h5 _).mono ?_; rintro e w' ⟨rfl, rfl⟩)
      go_ret2
      exact ⟨by rw [HT.out.1, HT.out.2]; rfl, Below.refl _ _⟩
  · have h5 := fun W => positionIn_no ⟨#[116, 117]⟩ a (fun c hc hm => by
      subst hc
      have : c = 116 ∨ c = 117 := by simpa using hm
      rcases this with rfl | rfl
      · exact ht rfl
      · exact hu rfl) W
    have HT := Lib.hid (frT_no (fl := free.data.toList) (a := a) (by
      rintro (⟨h, _⟩ | ⟨h, _⟩)
      · exact ht h
      · exact hu h))
    clear ht hu hfl
    go_enter Tryz.func27, Tryz.ntmps27
    go_wp2_with (go_at_call 28; refine (h5 _).mono ?_; rintro e w' ⟨rfl, rfl⟩)
    go_ret2
    exact ⟨by rw [HT.out.1, HT.out.2]; rfl, Below.refl _ _⟩
set_option maxRecDepth 100000 in
set_option maxHeartbeats 1600000 in
theorem renameF_c (tb : ByteArray → Bool) (tt : ByteArray → ByteArray) (c1 : Value) (xs : List St) (v : Value) (w : World) (hlen : xs.length ≤ 1048576) (hx : RdS w v xs)
    (htl : ∀ a W, Below w.heap.size w W → Calls Tryz.prog 27 #[.string a, c1] W fun e w' => e = .returned (.tuple #[.string (tt a), .bool (tb a)]) ∧ Below W.heap.size W w') :
    Calls Tryz.prog 26 #[v, .func (.func 27) #[] #[c1]] w fun e w' => ∃ v', e = .returned v' ∧ w'.ownsRow w.heap.size 58 3 v' (xs.map (tlX tb tt)).length (scells (xs.map (tlX tb tt))) ∧ Below w.heap.size w w' := by
  have HTL := Lib.hid htl
  clear htl
  have HXA : Hid (∀ k (hk : k < (xs.map (tlX tb tt)).length) (hk2 : k < xs.length), (xs.map (tlX tb tt))[k] = (xs[k].1, tlB tb tt xs[k].2.1, tlB tb tt xs[k].2.2)) := fun k hk hk2 => by rw [List.getElem_map]; rfl
  have HXL := Lib.hid (tlX_len tb tt xs)
  generalize xs.map (tlX tb tt) = ys at *
  obtain ⟨i0, hi0, hz0, hz1, hz2⟩ := info_parts infoSt
  have hmk := fun W : World => run_make (P := Tryz.prog) W 23 58 i0 _ Tryz.underlying23 hi0 hz0 .i64 .i64 xs.length xs.length (by omega) (Int.le_refl _) (by rw [hz2]; omega) (by omega)
  simp only [Int.toNat_natCast, hz1] at hmk
  obtain ⟨A, cap, rfl, hn, hc, hcell⟩ := hx.open
  clear hx
  have hO := own_made w w.heap.size 58 #[Value.int .i64 0, Value.string ⟨#[]⟩, Value.string ⟨#[]⟩] 3 xs.length rfl (by omega) (by omega) (Nat.le_refl _)
  have hB : Below w.heap.size w (w.alloc (Obj.cells (madeCells #[Value.int .i64 0, Value.string ⟨#[]⟩, Value.string ⟨#[]⟩] (xs.length * 3)) 58)) := (Below.refl _ _).alloc (Nat.le_refl _) _
  go_enter Tryz.func26, Tryz.ntmps26
  go_wp2
  generalize (w.alloc (Obj.cells (madeCells #[Value.int .i64 0, Value.string ⟨#[]⟩, Value.string ⟨#[]⟩] (xs.length * 3)) 58)) = W1 at *
  have HZ0 : Hid (shalf ys 0 = (List.replicate xs.length zSt).flatten) := by show _ = _; rw [shalf_zero, HXL.out]
  go_loopw [6, 7, 8, 9, 10, 11, 17] (fun _ _ _ _ _ _ i wr => ∃ (k : Nat), k ≤ xs.length ∧ i = .int .i64 k ∧ wr.ownsRow w.heap.size 58 3 (.slice (some ⟨w.heap.size, 0, none⟩) xs.length xs.length) xs.length (shalf ys k) ∧ Below w.heap.size w wr) (fun _ _ _ _ _ _ i _ => xs.length - (RowKit.intOf i).toNat)
  case atStart => exact ⟨0, by omega, rfl, by rw [HZ0.out]; exact hO, hB⟩
  case round =>
    clear hO hB
    obtain ⟨k, hk, rfl, ho, hb⟩ := hrel
    have hbs := hb.size
    by_cases hlt : k < xs.length
    · obtain ⟨b, off, rfl, hbl, hc1, hc2, hc3⟩ := hcell k hlt
      have hd1 := (hb.cell (p := ⟨b, off + k * 3, none⟩) hbl).trans hc1
      have hd2 := (hb.cell (p := ⟨b, off + k * 3 + 1, none⟩) hbl).trans hc2
      have hd3 := (hb.cell (p := ⟨b, off + k * 3 + 2, none⟩) hbl).trans hc3
      have hky : k < ys.length := by rw [HXL.out]; exact hlt
      have hyk := HXA.out k hky hlt
      have hset := shalf_set ys k hky
      have hat := shalf_at ys k hky
      rw [hyk] at hset
      have HSET := Lib.hid hset
      clear hc1 hc2 hc3 hcell hyk hset
      have HT1 := Lib.hid (fun W hW => HTL.out xs[k].2.1 W hW)
      have HT2 := Lib.hid (fun W hW => HTL.out xs[k].2.2 W hW)
      have hol := (own_lt ho).1
      unfold tlB at HSET
      generalize tb xs[k].2.1 = b2 at *
      generalize tb xs[k].2.2 = b3 at *
      generalize tt xs[k].2.1 = y2 at *
      generalize tt xs[k].2.2 = y3 at *
      generalize xs[k].1 = x1 at *
      generalize xs[k].2.1 = x2 at *
      generalize xs[k].2.2 = x3 at *
      have hA1 : At (wr.alloc (.cells #[.int .i64 x1, .string x2, .string x3] 58)) wr.heap.size 58 #[.int .i64 x1, .string x2, .string x3] := At.new _ _ _
      have hb1 : Below w.heap.size w (wr.alloc (.cells #[.int .i64 x1, .string x2, .string x3] 58)) := hb.alloc hbs _
      have ho1 : (wr.alloc (.cells #[.int .i64 x1, .string x2, .string x3] 58)).ownsRow w.heap.size 58 3 (.slice (some ⟨w.heap.size, 0, none⟩) xs.length xs.length) xs.length (shalf ys k) := own_keep ho ((Below.refl _ _).alloc (Nat.le_refl _) _)
      have hne : (Value.slice (some ⟨w.heap.size, 0, none⟩) xs.length xs.length).ownBlock ≠ some wr.heap.size := fun e => by have : w.heap.size = wr.heap.size := Option.some.inj e; omega
      have i0' : (0 : Int) ≤ (k : Int) := by omega
      have i1' : (k : Int) < (xs.length : Int) := by omega
      clear hb ho
      have hl1 := hA1.lt
      have p1 := hA1.cell 1
      go_wp2_with fail
      refine (HT1.out _ hb1).mono ?_
      rintro e W2 ⟨rfl, hbw⟩
      replace hA1 := hA1.keep hbw
      replace ho1 := own_keep ho1 hbw
      replace hb1 := hb1.trans (hbw.mono hb1.size)
      clear hbw hl1 p1
      have hl1 := hA1.lt
      cases b2 with
      | true =>
        have f1 := hA1.frozen 1
        have p1 := hA1.cell 1
        have hA2 : At (W2.setCell ⟨wr.heap.size, 1, none⟩ (.string y2)) wr.heap.size 58 #[.int .i64 x1, .string y2, .string x3] := by simpa using hA1.set 1 (.string y2)
        have ho2 := own_grown ho1 (grown_cellR W2 wr.heap.size 1 (.string y2)) (.inl hne)
        have hb2 : Below w.heap.size w (W2.setCell ⟨wr.heap.size, 1, none⟩ (.string y2)) := hb1.setCell (by simp; omega) _
        clear hA1 ho1 hb1
        have p2 := hA2.cell 2
        simp only [List.getElem?_toArray, List.getElem?_cons_zero, List.getElem?_cons_succ] at p2
        go_wp2_with fail
        refine (HT2.out _ hb2).mono ?_
        rintro e W3 ⟨rfl, hbw⟩
        replace hA2 := hA2.keep hbw
        replace ho2 := own_keep ho2 hbw
        replace hb2 := hb2.trans (hbw.mono hb2.size)
        clear hbw p2 f1 p1
        have hl3 := hA2.lt
        cases b3 with
        | true =>
          have f2 := hA2.frozen 2
          have p2 := hA2.cell 2
          have hA3 : At (W3.setCell ⟨wr.heap.size, 2, none⟩ (.string y3)) wr.heap.size 58 #[.int .i64 x1, .string y2, .string y3] := by simpa using hA2.set 2 (.string y3)
          have ho3 := own_grown ho2 (grown_cellR W3 wr.heap.size 2 (.string y3)) (.inl hne)
          have hb3 : Below w.heap.size w (W3.setCell ⟨wr.heap.size, 2, none⟩ (.string y3)) := hb2.setCell (by simp; omega) _
          clear hA2 ho2 hb2
          have c0 := hA3.cell 0
          have c1 := hA3.cell 1
          have c2 := hA3.cell 2
          simp only [List.getElem?_toArray, List.getElem?_cons_zero, List.getElem?_cons_succ] at c0 c1 c2
          have hf1 := ho3.frozenAt (k * 3)
          have hf2 := ho3.frozenAt (k * 3 + 1)
          have hf3 := ho3.frozenAt (k * 3 + 2)
          have hg1 := (ho3.cellAt (k * 3) (by omega)).trans hat.1
          have hg2 := (ho3.cellAt (k * 3 + 1) (by omega)).trans hat.2.1
          have hg3 := (ho3.cellAt (k * 3 + 2) (by omega)).trans hat.2.2
          clear hA3 hat hne
          go_wp2_with fail
          go_roundw
          case rel =>
            refine ⟨k + 1, by omega, by go_num, ?_, ?_⟩
            · rw [← HSET.out]
              exact (((ho3.stored (k * 3) _).1.stored (k * 3 + 1) _).1.stored (k * 3 + 2) _).1
            · exact ((hb3.setCell (Nat.le_refl _) _).setCell (Nat.le_refl _) _).setCell (Nat.le_refl _) _
          case measure => simp [RowKit.intOf]; omega
        | false =>
          have hA3 := hA2
          have ho3 := ho2
          have hb3 := hb2
          clear hA2 ho2 hb2
          have c0 := hA3.cell 0
          have c1 := hA3.cell 1
          have c2 := hA3.cell 2
          simp only [List.getElem?_toArray, List.getElem?_cons_zero, List.getElem?_cons_succ] at c0 c1 c2
          have hf1 := ho3.frozenAt (k * 3)
          have hf2 := ho3.frozenAt (k * 3 + 1)
          have hf3 := ho3.frozenAt (k * 3 + 2)
          have hg1 := (ho3.cellAt (k * 3) (by omega)).trans hat.1
          have hg2 := (ho3.cellAt (k * 3 + 1) (by omega)).trans hat.2.1
          have hg3 := (ho3.cellAt (k * 3 + 2) (by omega)).trans hat.2.2
          clear hA3 hat hne
          go_wp2_with fail
          go_roundw
          case rel =>
            refine ⟨k + 1, by omega, by go_num, ?_, ?_⟩
            · rw [← HSET.out]
              exact (((ho3.stored (k * 3) _).1.stored (k * 3 + 1) _).1.stored (k * 3 + 2) _).1
            · exact ((hb3.setCell (Nat.le_refl _) _).setCell (Nat.le_refl _) _).setCell (Nat.le_refl _) _
          case measure => simp [RowKit.intOf]; omega
      | false =>
        have hA2 := hA1
        have ho2 := ho1
        have hb2 := hb1
        clear hA1 ho1 hb1
        have p2 := hA2.cell 2
        simp only [List.getElem?_toArray, List.getElem?_cons_zero, List.getElem?_cons_succ] at p2
        go_wp2_with fail
        refine (HT2.out _ hb2).mono ?_
        rintro e W3 ⟨rfl, hbw⟩
        replace hA2 := hA2.keep hbw
        replace ho2 := own_keep ho2 hbw
        replace hb2 := hb2.trans (hbw.mono hb2.size)
        clear hbw p2
        have hl3 := hA2.lt
        cases b3 with
        | true =>
          have f2 := hA2.frozen 2
          have p2 := hA2.cell 2
          have hA3 : At (W3.setCell ⟨wr.heap.size, 2, none⟩ (.string y3)) wr.heap.size 58 #[.int .i64 x1, .string x2, .string y3] := by simpa using hA2.set 2 (.string y3)
          have ho3 := own_grown ho2 (grown_cellR W3 wr.heap.size 2 (.string y3)) (.inl hne)
          have hb3 : Below w.heap.size w (W3.setCell ⟨wr.heap.size, 2, none⟩ (.string y3)) := hb2.setCell (by simp; omega) _
          clear hA2 ho2 hb2
          have c0 := hA3.cell 0
          have c1 := hA3.cell 1
          have c2 := hA3.cell 2
          simp only [List.getElem?_toArray, List.getElem?_cons_zero, List.getElem?_cons_succ] at c0 c1 c2
          have hf1 := ho3.frozenAt (k * 3)
          have hf2 := ho3.frozenAt (k * 3 + 1)
          have hf3 := ho3.frozenAt (k * 3 + 2)
          have hg1 := (ho3.cellAt (k * 3) (by omega)).trans hat.1
          have hg2 := (ho3.cellAt (k * 3 + 1) (by omega)).trans hat.2.1
          have hg3 := (ho3.cellAt (k * 3 + 2) (by omega)).trans hat.2.2
          clear hA3 hat hne
          go_wp2_with fail
          go_roundw
          case rel =>
            refine ⟨k + 1, by omega, by go_num, ?_, ?_⟩
            · rw [← HSET.out]
              exact (((ho3.stored (k * 3) _).1.stored (k * 3 + 1) _).1.stored (k * 3 + 2) _).1
            · exact ((hb3.setCell (Nat.le_refl _) _).setCell (Nat.le_refl _) _).setCell (Nat.le_refl _) _
          case measure => simp [RowKit.intOf]; omega
        | false =>
          have hA3 := hA2
          have ho3 := ho2
          have hb3 := hb2
          clear hA2 ho2 hb2
          have c0 := hA3.cell 0
          have c1 := hA3.cell 1
          have c2 := hA3.cell 2
          simp only [List.getElem?_toArray, List.getElem?_cons_zero, List.getElem?_cons_succ] at c0 c1 c2
          have hf1 := ho3.frozenAt (k * 3)
          have hf2 := ho3.frozenAt (k * 3 + 1)
          have hf3 := ho3.frozenAt (k * 3 + 2)
          have hg1 := (ho3.cellAt (k * 3) (by omega)).trans hat.1
          have hg2 := (ho3.cellAt (k * 3 + 1) (by omega)).trans hat.2.1
          have hg3 := (ho3.cellAt (k * 3 + 2) (by omega)).trans hat.2.2
          clear hA3 hat hne
          go_wp2_with fail
          go_roundw
          case rel =>
            refine ⟨k + 1, by omega, by go_num, ?_, ?_⟩
            · rw [← HSET.out]
              exact (((ho3.stored (k * 3) _).1.stored (k * 3 + 1) _).1.stored (k * 3 + 2) _).1
            · exact ((hb3.setCell (Nat.le_refl _) _).setCell (Nat.le_refl _) _).setCell (Nat.le_refl _) _
          case measure => simp [RowKit.intOf]; omega
    · have hk' : k = xs.length := by omega
      have ho2 := ho
      rw [hk', ← HXL.out, shalf_full] at ho2
      have HO3 : Hid (wr.ownsRow w.heap.size 58 3 (.slice (some ⟨w.heap.size, 0, none⟩) xs.length xs.length) ys.length (scells ys)) := by
        have := ho2
        rw [show (Value.slice (some ⟨w.heap.size, 0, none⟩) ys.length ys.length) = (Value.slice (some ⟨w.heap.size, 0, none⟩) xs.length xs.length) by rw [HXL.out]] at this
        exact this
      have HK := Lib.hid hk'
      clear hcell ho2 ho hk'
      go_wp2
      go_ret
      exact ⟨_, rfl, HO3.out, hb⟩
set_option maxRecDepth 100000 in
set_option maxHeartbeats 1600000 in
theorem imWithFree_c (xs : List St) (v : Value) (free : ByteArray) (hf : free.size ≤ 1048576) (w : World) (hx : RdS w v xs) :
    Calls Tryz.prog 5 #[v, .string free] w fun e w' => ∃ v', e = .returned (.tuple #[v', .bool (frOk xs free.data.toList)]) ∧ w'.ownsRow w.heap.size 58 3 v' (frS xs free.data.toList).length (scells (frS xs free.data.toList)) ∧ Below w.heap.size w w' := by
  have hB0 : Below w.heap.size w (w.alloc (.cells #[.string free] 9)) := (Below.refl _ _).alloc (Nat.le_refl _) _
  have hA0 : At (w.alloc (.cells #[.string free] 9)) w.heap.size 9 #[.string free] := At.new _ _ _
  have hsv := Lib.hid (imSequenceValid_c xs v _ (hx.below hB0))
  have HX := Lib.hid (fun W (hb : Below w.heap.size w W) => hx.below hb)
  have hown0 : ∀ W : World, W.ownsRow w.heap.size 58 3 (.slice none 0 0) ([] : List St).length (scells []) := fun W => ⟨rfl, .inl ⟨rfl, rfl⟩⟩
  have HFO := Lib.hid (frOk_ar xs free.data.toList)
  have HNO := Lib.hid (fun h => frS_no (xs := xs) (free := free.data.toList) h)
  have HYS := Lib.hid (fun h => frS_yes (xs := xs) (free := free.data.toList) h)
  obtain ⟨Av, cv, rfl, -⟩ := hx.open
  rcases Bool.eq_false_or_eq_true (svalid xs) with h1 | h1
  · have hlen := svalid_len h1
    have HAR := Lib.hid (fun W hW => areFree_c free xs h1 (.slice Av xs.length cv) W hW hf)
    have H1 := Lib.hid h1
    rw [h1, Bool.true_and] at HFO
    have HSZ := Lib.hid (fun h => ar_len (xs := xs) (free := free.data.toList) h)
    have hfl : free.data.toList.length = free.size := size_data free
    have HMP := Lib.hid (fr_map free.data.toList xs)
    clear h1 hx
    generalize hal : arF xs free.data.toList = ar at *
    cases ar with
    | false =>
      have HF := Lib.hid (HNO.out HFO.out)
      clear hal
      go_enter Tryz.func5, Tryz.ntmps5
      go_wp2_with fail
      refine hsv.out.mono ?_
      rintro e w1 ⟨rfl, hb1⟩
      rw [H1.out]
      have hB1 := hB0.trans (hb1.mono hB0.size)
      have hx1 := HX.out _ hB1
      have c1 : w1.cell? ⟨w.heap.size, 0, none⟩ = some (.string free) := (hA0.keep hb1).cell 0
      go_wp2_with (go_at_call 25; refine (HAR.out _ hx1).mono ?_; rintro e w2 ⟨rfl, hb2⟩)
      go_ret2
      exact ⟨_, by rw [HFO.out]; rfl, by rw [HF.out]; exact hown0 _, hB1.trans (hb2.mono hB1.size)⟩
    | true =>
      have hsz := HSZ.out rfl
      rw [hfl] at hsz
      have HF := Lib.hid (HYS.out HFO.out)
      clear hal hfl HSZ
      go_enter Tryz.func5, Tryz.ntmps5
      go_wp2_with fail
      refine hsv.out.mono ?_
      rintro e w1 ⟨rfl, hb1⟩
      rw [H1.out]
      have hB1 := hB0.trans (hb1.mono hB0.size)
      have hx1 := HX.out _ hB1
      have hA1 := hA0.keep hb1
      have c1 : w1.cell? ⟨w.heap.size, 0, none⟩ = some (.string free) := hA1.cell 0
      clear hb1 hB0 hA0
      go_wp2_with fail
      refine (HAR.out _ hx1).mono ?_
      rintro e w2 ⟨rfl, hb2⟩
      have hB2 := hB1.trans (hb2.mono hB1.size)
      have hs2 := hB2.size
      have hA2 := hA1.keep hb2
      have hx2 := HX.out _ hB2
      clear hb2 hB1 hx1 hA1 c1
      go_wp2_with fail
      refine (renameF_c (frT free.data.toList) (frV free.data.toList) _ xs (.slice Av xs.length cv) w2 (by omega) hx2 (fun a W hW => tellF_c _ a free hsz W (hA2.keep hW))).mono ?_
      rintro e w3 ⟨v3, rfl, ho3, hb3⟩
      rw [HMP.out] at ho3
      have hB3 := hB2.trans (hb3.mono hs2)
      have ho4 := own_more ho3 hs2
      clear hb3 ho3
      go_wp2
      go_ret2
      exact ⟨_, by rw [HFO.out]; rfl, by rw [HF.out]; exact ho4, hB3⟩
  · have HF : Hid (frOk xs free.data.toList = false) := by show _ = _; rw [HFO.out, h1]; rfl
    have HFS := Lib.hid (HNO.out HF.out)
    have H1 := Lib.hid h1
    clear h1
    go_enter Tryz.func5, Tryz.ntmps5
    go_wp2_with fail
    refine hsv.out.mono ?_
    rintro e w1 ⟨rfl, hb1⟩
    rw [H1.out]
    go_wp2
    go_ret2
    exact ⟨_, by rw [HF.out]; rfl, by rw [HFS.out]; exact hown0 _, hB0.trans (hb1.mono hB0.size)⟩
end Go.Proofs.YtnhncbhhlbcieaaGreat
namespace Go.PD
open Go.PM Go.RowKit Go.Lib
theorem one_at {a : ByteArray} (h : a.size = 1) (h0 : 0 < a.size) (c : UInt8) : a[0] = c ↔ a = ⟨#[c]⟩ := by
  obtain ⟨d, rfl⟩ := one_of_size h
  have e : (⟨#[d]⟩ : ByteArray)[0] = d := rfl
  rw [e]
  constructor
  · intro h; rw [h]
  · intro h
    have := congrArg (fun s : ByteArray => s.data.toList) h
    simpa using this
/-- a letter that serves: a register that stands in no step so far -/
def okF (xs : List St) (c : UInt8) : Bool := decide (c ∈ regsL) && decide (c ∉ snL xs)
theorem arF_ok (xs : List St) (free : List UInt8) : arF xs free = (decide (free.length ≤ 2 ∧ free.Nodup) && free.all (okF xs)) := rfl
theorem okF_reg {xs : List St} {c : UInt8} (h : decide (c ∈ regsL) = false) : okF xs c = false := by unfold okF; rw [h]; rfl
theorem okF_hit {xs : List St} (hv : svalid xs = true) {c : UInt8} (k : Nat) (hk : k < xs.length) (h : xs[k].2.1 = ⟨#[c]⟩ ∨ xs[k].2.2 = ⟨#[c]⟩) : okF xs c = false := by
  unfold okF
  rw [decide_eq_false (p := c ∉ snL xs), Bool.and_false]
  intro h2
  exact h2 ((snL_mem (sv_mem hv) c).2 ⟨_, List.getElem_mem hk, h⟩)
theorem okF_yes {xs : List St} (hv : svalid xs = true) {c : UInt8} (h1 : decide (c ∈ regsL) = true) (h2 : ∀ k (hk : k < xs.length), ¬ (xs[k].2.1 = ⟨#[c]⟩ ∨ xs[k].2.2 = ⟨#[c]⟩)) : okF xs c = true := by
  unfold okF
  rw [h1, Bool.true_and, decide_eq_true_eq, snL_mem (sv_mem hv)]
  rintro ⟨x, hx, e⟩
  obtain ⟨k, hk, rfl⟩ := List.getElem_of_mem hx
  exact h2 k hk e
theorem ar_bad {xs : List St} {free : List UInt8} (k : Nat) (hk : k < free.length) (h : okF xs free[k] = false) : arF xs free = false := by
  rw [arF_ok]
  have : free.all (okF xs) = false := List.all_eq_false.2 ⟨_, List.getElem_mem hk, by rw [h]; decide⟩
  rw [this, Bool.and_false]
theorem ar_all {xs : List St} {free : List UInt8} (h1 : free.length ≤ 2) (h2 : free.Nodup) (h : ∀ k (hk : k < free.length), okF xs free[k] = true) : arF xs free = true := by
  rw [arF_ok, decide_eq_true ⟨h1, h2⟩, Bool.true_and, List.all_eq_true]
  intro c hc
  obtain ⟨k, hk, rfl⟩ := List.getElem_of_mem hc
  exact h k hk
theorem ar_dup {xs : List St} {free : List UInt8} (h : ¬ free.Nodup) : arF xs free = false := by
  rw [arF_ok, decide_eq_false (fun h2 => h h2.2)]; rfl
theorem nodup_two {f : ByteArray} (h : f.size ≤ 2) : f.data.toList.Nodup ↔ ∀ (h0 : 0 < f.size) (h1 : 1 < f.size), f[0] ≠ f[1] := by
  obtain ⟨⟨l⟩⟩ := f
  have hl : l.length ≤ 2 := h
  match l, hl with
  | [], _ => exact ⟨fun _ h0 _ => absurd (show 0 < 0 from h0) (by decide), fun _ => by simp⟩
  | [a], _ => exact ⟨fun _ _ h1 => absurd (show 1 < 1 from h1) (by decide), fun _ => by simp⟩
  | [a, b], _ =>
    constructor
    · intro hn _ _ e
      have e' : a = b := e
      simp [e'] at hn
    · intro hh
      have : a ≠ b := hh (show 0 < 2 by decide) (show 1 < 2 by decide)
      simp [this]
theorem frX_snoc (xs : List St) (fl : List UInt8) (k : Nat) (hk : k < xs.length) : (xs.take (k + 1)).map (frX fl) = (xs.take k).map (frX fl) ++ [(xs[k].1, frN fl xs[k].2.1, frN fl xs[k].2.2)] := by
  rw [take_snoc xs k hk, List.map_append]; rfl
end Go.PD
namespace Go.Proofs.YtnhncbhhlbcieaaGreat
open Go.RowKit Go.PM Go.PD Go.Lib
attribute [local go_sem] Oper.semAt_some

theorem reg_in (c : UInt8) : decide (c ∈ regsL) = inB (c.toNat : Int) 97 102 := by
  unfold inB
  rw [Bool.eq_iff_iff, decide_eq_true_eq]
  constructor
  · intro h
    simp only [regsL, List.mem_cons, List.not_mem_nil, or_false] at h
    rcases h with rfl | rfl | rfl | rfl | rfl | rfl <;> decide
  · intro h
    have h2' : (97 : Int) ≤ (c.toNat : Int) ∧ (c.toNat : Int) ≤ 102 := by simpa using h
    have h2 : 97 ≤ c.toNat ∧ c.toNat ≤ 102 := by omega
    have h3 : c.toNat = 97 ∨ c.toNat = 98 ∨ c.toNat = 99 ∨ c.toNat = 100 ∨ c.toNat = 101 ∨ c.toNat = 102 := by omega
    have key : ∀ d : UInt8, c.toNat = d.toNat → c = d := fun d e => UInt8.toNat.inj e
    rcases h3 with h3 | h3 | h3 | h3 | h3 | h3
    · rw [key 97 h3]; decide
    · rw [key 98 h3]; decide
    · rw [key 99 h3]; decide
    · rw [key 100 h3]; decide
    · rw [key 101 h3]; decide
    · rw [key 102 h3]; decide
set_option maxHeartbeats 800000 in
theorem l8Instead_c (a free : ByteArray) (ha : a.size = 1) (hs : free.size ≤ 2) (w : World) :
    Calls Tryz.prog 31 #[.string a, .string free] w fun e w' => e = .returned (.string (frN free.data.toList a)) ∧ w = w' := by
  have hfl : free.data.toList.length = free.size := size_data free
  have HF13 := Lib.hid (fun c W => l13Find_c ⟨#[116, 117]⟩ c W (by decide))
  obtain ⟨c, rfl⟩ := one_of_size ha
  by_cases ht : c = 116
  · subst ht
    have h5 := Lib.hid (fun W => HF13.out 116 W)
    rw [show indexByte (ByteArray.mk #[116, 117]).data.toList 116 = 0 by decide] at h5
    by_cases h0 : 0 < free.size
    · have HX := Lib.hid (extract_one free 0 h0)
      have HF := Lib.hid (frN_t (free := free.data.toList) (by omega))
      have t1 : (0 : Int) < (free.size : Int) := by omega
      clear hfl ha
      go_enter Tryz.func31, Tryz.ntmps31
      go_wp2_with (go_at_call 51; refine (h5.out _).mono ?_; rintro e w' ⟨rfl, rfl⟩)
      go_ret
      exact ⟨by rw [HF.out, ← HX.out]; rfl, rfl⟩
    · have HF := Lib.hid (frN_t0 (free := free.data.toList) (by omega))
      have t1 : ¬ (0 : Int) < (free.size : Int) := by omega
      clear hfl ha
      go_enter Tryz.func31, Tryz.ntmps31
      go_wp2_with (go_at_call 51; refine (h5.out _).mono ?_; rintro e w' ⟨rfl, rfl⟩)
      go_ret
      exact ⟨by rw [HF.out]; rfl, rfl⟩
  by_cases hu : c = 117
  · subst hu
    have h5 := Lib.hid (fun W => HF13.out 117 W)
    rw [show indexByte (ByteArray.mk #[116, 117]).data.toList 117 = 1 by decide] at h5
    by_cases h0 : 1 < free.size
    · have HX := Lib.hid (extract_one free 1 h0)
      have HF := Lib.hid (frN_u (free := free.data.toList) (by omega))
      have t1 : (1 : Int) < (free.size : Int) := by omega
      clear hfl ha ht
      go_enter Tryz.func31, Tryz.ntmps31
      go_wp2_with (go_at_call 51; refine (h5.out _).mono ?_; rintro e w' ⟨rfl, rfl⟩)
      go_ret
      exact ⟨by rw [HF.out, ← HX.out]; rfl, rfl⟩
    · have HF := Lib.hid (frN_u0 (free := free.data.toList) (by omega))
      have t1 : ¬ (1 : Int) < (free.size : Int) := by omega
      clear hfl ha ht
      go_enter Tryz.func31, Tryz.ntmps31
      go_wp2_with (go_at_call 51; refine (h5.out _).mono ?_; rintro e w' ⟨rfl, rfl⟩)
      go_ret
      exact ⟨by rw [HF.out]; rfl, rfl⟩
  · have hne : ∀ d : UInt8, c ≠ d → (⟨#[c]⟩ : ByteArray) ≠ ⟨#[d]⟩ := fun d h e => h (by
      have := congrArg (fun s : ByteArray => s.data.toList) e
      simpa using this)
    have HF := Lib.hid (frN_other (free := free.data.toList) (hne 116 ht) (hne 117 hu))
    have h5 := Lib.hid (fun W => HF13.out c W)
    have hix : indexByte (ByteArray.mk #[116, 117]).data.toList c < 0 := by
      have h6 : ¬ 0 ≤ indexByte (ByteArray.mk #[116, 117]).data.toList c := by
        rw [indexByte_mem]
        intro h
        have : c = 116 ∨ c = 117 := by simpa using h
        rcases this with e | e
        · exact ht e
        · exact hu e
      omega
    generalize indexByte (ByteArray.mk #[116, 117]).data.toList c = z at *
    have t1 : ¬ 0 ≤ z := by omega
    clear hne ht hu hfl ha
    go_enter Tryz.func31, Tryz.ntmps31
    go_wp2_with (go_at_call 51; refine (h5.out _).mono ?_; rintro e w' ⟨rfl, rfl⟩)
    go_ret
    exact ⟨by rw [HF.out]; rfl, rfl⟩
end Go.Proofs.YtnhncbhhlbcieaaGreat
