import Derived.Test.YtplapaojgcloaaaGreatDoorHar
import Derived.Test.YtplapaojgcloaaaGreatDoorP2
import Derived.Test.YtplapaojgcloaaaGreatDoorApp
import Derived.Test.YtplapaojgcloaaaGreatDoorLate
import Derived.Test.YtplapaojgcloaaaGreatDoorIm3
import Derived.Test.YtplapaojgcloaaaGreatDoorWaZA
import Derived.Test.YtplapaojgcloaaaGreatDoorDraw3
import Derived.Test.YtplapaojgcloaaaGreatDoorTurn
namespace Go.PM
open Go.RowKit
def mdig : Nat → Nat → List UInt8
  | 0, _ => []
  | f + 1, n => if n = 0 then [] else mdig f (n / 10) ++ [UInt8.ofNat (48 + n % 10)]
def mT (k : Nat) : ByteArray := if k = 0 then ⟨#[109, 48]⟩ else ⟨(109 :: mdig k k).toArray⟩
theorem mdig_zero (f : Nat) : mdig f 0 = [] := by cases f <;> simp [mdig]
theorem mdig_step (f n : Nat) (h : n ≤ f) (h0 : 0 < n) : ∃ f', f = f' + 1 ∧ n / 10 ≤ f' ∧ mdig f n = mdig f' (n / 10) ++ [UInt8.ofNat (48 + n % 10)] := by
  cases f with
  | zero => omega
  | succ f => exact ⟨f, rfl, by omega, by simp [mdig]; omega⟩
end Go.PM
namespace Go.Proofs.YtplapaojgcloaaaGreatDoor
open Go.RowKit Go.PM

theorem conv_one (W : World) (c : Int) : (convert 22 9 (.slice (some ⟨W.heap.size, 0, none⟩) 1 1)).run Tryz.prog (W.alloc (.cells #[.int .u8 c] 5)) =
    .ok (.string ⟨#[UInt8.ofNat c.toNat]⟩) (W.alloc (.cells #[.int .u8 c] 5)) := by
  rw [run_convert_bytes_string _ _ _ _ _ _ _ Tryz.underlying22 Tryz.underlying5 Tryz.underlying9]
  have hl : (loadCells ⟨W.heap.size, 0, none⟩ 1).run Tryz.prog (W.alloc (.cells #[.int .u8 c] 5)) = .ok ([c].map (Value.int .u8)).toArray (W.alloc (.cells #[.int .u8 c] 5)) :=
    run_loadCells_list (P := Tryz.prog) (W.alloc (.cells #[.int .u8 c] 5)) ⟨W.heap.size, 0, none⟩ [Value.int .u8 c] (fun j v hj => by
      cases j with
      | zero =>
        simp [Addr.add] at hj ⊢
        exact hj
      | succ j => simp at hj)
  rw [run_bytesToString (ns := [c]) _ _ _ _ hl]
  rfl

/-- the cells behind n marked moves, the first mark being number k -/
def marks : Nat → Nat → List Mv
  | 0, _ => []
  | n + 1, k => (mT k, mT (k + 1)) :: marks n (k + 2)
theorem marks_length (n k : Nat) : (marks n k).length = n := by
  induction n generalizing k with
  | zero => rfl
  | succ n ih => simp [marks, ih]
theorem marks_at (n k i : Nat) (h : i < (marks n k).length) : (marks n k)[i] = (mT (k + 2 * i), mT (k + 2 * i + 1)) := by
  induction n generalizing k i with
  | zero => simp [marks] at h
  | succ n ih =>
    cases i with
    | zero => rfl
    | succ i =>
      simp only [marks, List.getElem_cons_succ]
      rw [ih]
      congr 2 <;> omega
/-- the first i of the moves are marked -/
def mmix (xs : List Mv) (i k : Nat) : List Mv := marks i k ++ xs.drop i
theorem marks_snoc (i k : Nat) : marks (i + 1) k = marks i k ++ [(mT (k + 2 * i), mT (k + 2 * i + 1))] := by
  induction i generalizing k with
  | zero => rfl
  | succ i ih =>
    rw [marks, ih (k + 2)]
    simp only [marks, List.cons_append]
    rw [show k + 2 + 2 * i = k + 2 * (i + 1) by omega]
theorem mmix_length (xs : List Mv) (i k : Nat) (h : i ≤ xs.length) : (mmix xs i k).length = xs.length := by
  simp [mmix, marks_length]; omega
theorem mmix_set (xs : List Mv) (i k : Nat) (h : i < xs.length) : ((mcells (mmix xs i k)).set (i * 2) (.string (mT (k + 2 * i)))).set (i * 2 + 1) (.string (mT (k + 2 * i + 1))) = mcells (mmix xs (i + 1) k) := by
  have hl : (mcells (marks i k)).length = i * 2 := by rw [mcells_length, marks_length]
  unfold mmix
  rw [marks_snoc, List.drop_eq_getElem_cons h, mcells_append, mcells_append, mcells_append, mcells_cons]
  rw [List.set_append_right _ _ (by omega), List.set_append_right _ _ (by omega), hl, Nat.sub_self, show i * 2 + 1 - i * 2 = 1 by omega]
  simp [mcells]

end Go.Proofs.YtplapaojgcloaaaGreatDoor
namespace Go.PM
open Go.RowKit
def ssize : List St → Nat
  | [] => 0
  | x :: xs => x.2.1.size + x.2.2.size + 1 + ssize xs
theorem ssize_len (xs : List St) : xs.length ≤ ssize xs := by
  induction xs with
  | nil => simp [ssize]
  | cons x xs ih => simp only [ssize, List.length_cons]; omega
theorem ssize_append (xs ys : List St) : ssize (xs ++ ys) = ssize xs + ssize ys := by
  induction xs with
  | nil => simp [ssize]
  | cons x xs ih => simp only [List.cons_append, ssize, ih]; omega
theorem ssize_take_succ (xs : List St) (k : Nat) (hk : k < xs.length) : ssize (xs.take (k+1)) = ssize (xs.take k) + xs[k].2.1.size + xs[k].2.2.size + 1 := by
  rw [take_snoc xs k hk, ssize_append]; simp only [ssize]; omega
def zSt : List Value := [.int .i64 0, .string ⟨#[]⟩, .string ⟨#[]⟩]
def shalf (xs : List St) (k : Nat) : List Value := scells (xs.take k) ++ (List.replicate (xs.length - k) zSt).flatten
theorem shalf_at (xs : List St) (k : Nat) (hk : k < xs.length) : (shalf xs k)[k*3]? = some (Value.int .i64 0) ∧ (shalf xs k)[k*3+1]? = some (Value.string ⟨#[]⟩) ∧ (shalf xs k)[k*3+2]? = some (Value.string ⟨#[]⟩) := by
  have hl : (scells (xs.take k)).length = k * 3 := by rw [scells_length, List.length_take]; omega
  obtain ⟨d, hd⟩ : ∃ d, xs.length - k = d + 1 := ⟨xs.length - k - 1, by omega⟩
  unfold shalf
  rw [hd, List.replicate_succ, List.flatten_cons]
  refine ⟨?_, ?_, ?_⟩
  · rw [List.getElem?_append_right (by omega), hl]; simp [zSt]
  · rw [List.getElem?_append_right (by omega), hl, show k * 3 + 1 - k * 3 = 1 by omega]; simp [zSt]
  · rw [List.getElem?_append_right (by omega), hl, show k * 3 + 2 - k * 3 = 2 by omega]; simp [zSt]
theorem shalf_set (xs : List St) (k : Nat) (hk : k < xs.length) : (((shalf xs k).set (k*3) (.int .i64 xs[k].1)).set (k*3+1) (.string xs[k].2.1)).set (k*3+2) (.string xs[k].2.2) = shalf xs (k+1) := by
  have hl : (scells (xs.take k)).length = k * 3 := by rw [scells_length, List.length_take]; omega
  obtain ⟨d, hd⟩ : ∃ d, xs.length - k = d + 1 := ⟨xs.length - k - 1, by omega⟩
  unfold shalf
  rw [hd, List.replicate_succ, List.flatten_cons, show xs.length - (k+1) = d by omega, take_snoc xs k hk, scells_append]
  rw [List.set_append_right _ _ (by omega), List.set_append_right _ _ (by omega), List.set_append_right _ _ (by omega), hl]
  rw [show k * 3 - k * 3 = 0 by omega, show k * 3 + 1 - k * 3 = 1 by omega, show k * 3 + 2 - k * 3 = 2 by omega]
  simp [scells, zSt]
theorem shalf_zero (xs : List St) : shalf xs 0 = (List.replicate xs.length zSt).flatten := by simp [shalf, scells]
theorem shalf_full (xs : List St) : shalf xs xs.length = scells xs := by simp [shalf]
def stEq (k : Int) (a b : ByteArray) (k' : Int) (a' b' : ByteArray) : Bool := decide (k = k' ∧ a = a' ∧ b = b')
end Go.PM
namespace Go.Proofs.YtplapaojgcloaaaGreatDoor
open Go.RowKit Go.PM

theorem infoSt : (Tryz.prog.info? 51).map (fun i => (i.zero, i.size, i.bytes)) = some (some (.agg #[.int .i64 0, .string ⟨#[]⟩, .string ⟨#[]⟩]), 3, 40) := by kernel_rfl

end Go.Proofs.YtplapaojgcloaaaGreatDoor
namespace Go.PE
open Go.PM Go.RowKit
def tlB (tb : ByteArray → Bool) (tt : ByteArray → ByteArray) (a : ByteArray) : ByteArray := if tb a then tt a else a
def tlX (tb : ByteArray → Bool) (tt : ByteArray → ByteArray) (x : St) : St := (x.1, tlB tb tt x.2.1, tlB tb tt x.2.2)
theorem tlX_len (tb : ByteArray → Bool) (tt : ByteArray → ByteArray) (xs : List St) : (xs.map (tlX tb tt)).length = xs.length := by simp
theorem grown_cellR (W : World) (b i : Nat) (v : Value) : W.grownBy (W.setCell ⟨b, i, none⟩ v) (some b) :=
  ⟨rfl, rfl, rfl, by simp [World.size_setCell], fun k _ hne => heap_setCell_other W _ k v (fun e => hne (by rw [e]))⟩
end Go.PE
namespace Go.Proofs.YtplapaojgcloaaaGreatDoor
open Go.RowKit Go.PM Go.PE

set_option maxRecDepth 100000 in
set_option maxHeartbeats 1600000 in
theorem renameW_c (tb : ByteArray → Bool) (tt : ByteArray → ByteArray) (c1 c2 : Value) (xs : List St) (v : Value) (w : World) (hlen : xs.length ≤ 1048576) (hx : RdS w v xs)
    (htl : ∀ a W, Below w.heap.size w W → Calls Tryz.prog 24 #[.string a, c1, c2] W fun e w' => e = .returned (.tuple #[.string (tt a), .bool (tb a)]) ∧ Below W.heap.size W w') :
    Calls Tryz.prog 23 #[v, .func (.func 24) #[] #[c1, c2]] w fun e w' => ∃ v', e = .returned v' ∧ w'.ownsRow w.heap.size 51 3 v' (xs.map (tlX tb tt)).length (scells (xs.map (tlX tb tt))) ∧ Below w.heap.size w w' := by
  have HTL := Lib.hid htl
  clear htl
  have HXA : Hid (∀ k (hk : k < (xs.map (tlX tb tt)).length) (hk2 : k < xs.length), (xs.map (tlX tb tt))[k] = (xs[k].1, tlB tb tt xs[k].2.1, tlB tb tt xs[k].2.2)) := fun k hk hk2 => by rw [List.getElem_map]; rfl
  have HXL := Lib.hid (tlX_len tb tt xs)
  generalize xs.map (tlX tb tt) = ys at *
  obtain ⟨i0, hi0, hz0, hz1, hz2⟩ := info_parts infoSt
  have hmk := fun W : World => run_make (P := Tryz.prog) W 26 51 i0 _ Tryz.underlying26 hi0 hz0 .i64 .i64 xs.length xs.length (by omega) (Int.le_refl _) (by rw [hz2]; omega) (by omega)
  simp only [Int.toNat_natCast, hz1] at hmk
  obtain ⟨A, cap, rfl, hn, hc, hcell⟩ := hx.open
  clear hx
  have hO := own_made w w.heap.size 51 #[Value.int .i64 0, Value.string ⟨#[]⟩, Value.string ⟨#[]⟩] 3 xs.length rfl (by omega) (by omega) (Nat.le_refl _)
  have hB : Below w.heap.size w (w.alloc (Obj.cells (madeCells #[Value.int .i64 0, Value.string ⟨#[]⟩, Value.string ⟨#[]⟩] (xs.length * 3)) 51)) := (Below.refl _ _).alloc (Nat.le_refl _) _
  go_enter Tryz.func23, Tryz.ntmps23
  go_wp2
  generalize (w.alloc (Obj.cells (madeCells #[Value.int .i64 0, Value.string ⟨#[]⟩, Value.string ⟨#[]⟩] (xs.length * 3)) 51)) = W1 at *
  have HZ0 : Hid (shalf ys 0 = (List.replicate xs.length zSt).flatten) := by show _ = _; rw [shalf_zero, HXL.out]
  go_loopw [6, 7, 8, 9, 10, 11, 17] (fun _ _ _ _ _ _ i wr => ∃ (k : Nat), k ≤ xs.length ∧ i = .int .i64 k ∧ wr.ownsRow w.heap.size 51 3 (.slice (some ⟨w.heap.size, 0, none⟩) xs.length xs.length) xs.length (shalf ys k) ∧ Below w.heap.size w wr) (fun _ _ _ _ _ _ i _ => xs.length - (RowKit.intOf i).toNat)
  case atStart => exact ⟨0, by omega, rfl, by rw [HZ0.out]; exact hO, hB⟩
  case round =>
    clear hO hB
    obtain ⟨k, hk, rfl, ho, hb⟩ := hrel
    have hbs := hb.size
    by_cases hlt : k < xs.length
    · obtain ⟨b, off, rfl, hbl, hc1, hc2, hc3⟩ := hcell k hlt
      have hd1 := (hb.cell (p := ⟨b, off + k * 3, none⟩) hbl).trans hc1
      have hd2 := (hb.cell (p := ⟨b, off + k * 3 + 1, none⟩) hbl).trans hc2
      have hd3 := (hb.cell (p := ⟨b, off + k * 3 + 2, none⟩) hbl).trans hc3
      have hky : k < ys.length := by rw [HXL.out]; exact hlt
      have hyk := HXA.out k hky hlt
      have hset := shalf_set ys k hky
      have hat := shalf_at ys k hky
      rw [hyk] at hset
      have HSET := Lib.hid hset
      clear hc1 hc2 hc3 hcell hyk hset
      have HT1 := Lib.hid (fun W hW => HTL.out xs[k].2.1 W hW)
      have HT2 := Lib.hid (fun W hW => HTL.out xs[k].2.2 W hW)
      have hol := (own_lt ho).1
      unfold tlB at HSET
      generalize tb xs[k].2.1 = b2 at *
      generalize tb xs[k].2.2 = b3 at *
      generalize tt xs[k].2.1 = y2 at *
      generalize tt xs[k].2.2 = y3 at *
      generalize xs[k].1 = x1 at *
      generalize xs[k].2.1 = x2 at *
      generalize xs[k].2.2 = x3 at *
      have hA1 : At (wr.alloc (.cells #[.int .i64 x1, .string x2, .string x3] 51)) wr.heap.size 51 #[.int .i64 x1, .string x2, .string x3] := At.new _ _ _
      have hb1 : Below w.heap.size w (wr.alloc (.cells #[.int .i64 x1, .string x2, .string x3] 51)) := hb.alloc hbs _
      have ho1 : (wr.alloc (.cells #[.int .i64 x1, .string x2, .string x3] 51)).ownsRow w.heap.size 51 3 (.slice (some ⟨w.heap.size, 0, none⟩) xs.length xs.length) xs.length (shalf ys k) := own_keep ho ((Below.refl _ _).alloc (Nat.le_refl _) _)
      have hne : (Value.slice (some ⟨w.heap.size, 0, none⟩) xs.length xs.length).ownBlock ≠ some wr.heap.size := fun e => by have : w.heap.size = wr.heap.size := Option.some.inj e; omega
      have i0' : (0 : Int) ≤ (k : Int) := by omega
      have i1' : (k : Int) < (xs.length : Int) := by omega
      clear hb ho
      have hl1 := hA1.lt
      have p1 := hA1.cell 1
      go_wp2_with fail
      refine (HT1.out _ hb1).mono ?_
      rintro e W2 ⟨rfl, hbw⟩
      replace hA1 := hA1.keep hbw
      replace ho1 := own_keep ho1 hbw
      replace hb1 := hb1.trans (hbw.mono hb1.size)
      clear hbw hl1 p1
      have hl1 := hA1.lt
      cases b2 with
      | true =>
        have f1 := hA1.frozen 1
        have p1 := hA1.cell 1
        have hA2 : At (W2.setCell ⟨wr.heap.size, 1, none⟩ (.string y2)) wr.heap.size 51 #[.int .i64 x1, .string y2, .string x3] := by simpa using hA1.set 1 (.string y2)
        have ho2 := own_grown ho1 (grown_cellR W2 wr.heap.size 1 (.string y2)) (.inl hne)
        have hb2 : Below w.heap.size w (W2.setCell ⟨wr.heap.size, 1, none⟩ (.string y2)) := hb1.setCell (by simp; omega) _
        clear hA1 ho1 hb1
        have p2 := hA2.cell 2
        simp only [List.getElem?_toArray, List.getElem?_cons_zero, List.getElem?_cons_succ] at p2
        go_wp2_with fail
        refine (HT2.out _ hb2).mono ?_
        rintro e W3 ⟨rfl, hbw⟩
        replace hA2 := hA2.keep hbw
        replace ho2 := own_keep ho2 hbw
        replace hb2 := hb2.trans (hbw.mono hb2.size)
        clear hbw p2 f1 p1
        have hl3 := hA2.lt
        cases b3 with
        | true =>
          have f2 := hA2.frozen 2
          have p2 := hA2.cell 2
          have hA3 : At (W3.setCell ⟨wr.heap.size, 2, none⟩ (.string y3)) wr.heap.size 51 #[.int .i64 x1, .string y2, .string y3] := by simpa using hA2.set 2 (.string y3)
          have ho3 := own_grown ho2 (grown_cellR W3 wr.heap.size 2 (.string y3)) (.inl hne)
          have hb3 : Below w.heap.size w (W3.setCell ⟨wr.heap.size, 2, none⟩ (.string y3)) := hb2.setCell (by simp; omega) _
          clear hA2 ho2 hb2
          have c0 := hA3.cell 0
          have c1 := hA3.cell 1
          have c2 := hA3.cell 2
          simp only [List.getElem?_toArray, List.getElem?_cons_zero, List.getElem?_cons_succ] at c0 c1 c2
          have hf1 := ho3.frozenAt (k * 3)
          have hf2 := ho3.frozenAt (k * 3 + 1)
          have hf3 := ho3.frozenAt (k * 3 + 2)
          have hg1 := (ho3.cellAt (k * 3) (by omega)).trans hat.1
          have hg2 := (ho3.cellAt (k * 3 + 1) (by omega)).trans hat.2.1
          have hg3 := (ho3.cellAt (k * 3 + 2) (by omega)).trans hat.2.2
          clear hA3 hat hne
          go_wp2_with fail
          go_roundw
          case rel =>
            refine ⟨k + 1, by omega, by go_num, ?_, ?_⟩
            · rw [← HSET.out]
              exact (((ho3.stored (k * 3) _).1.stored (k * 3 + 1) _).1.stored (k * 3 + 2) _).1
            · exact ((hb3.setCell (Nat.le_refl _) _).setCell (Nat.le_refl _) _).setCell (Nat.le_refl _) _
          case measure => simp [RowKit.intOf]; omega
        | false =>
          have hA3 := hA2
          have ho3 := ho2
          have hb3 := hb2
          clear hA2 ho2 hb2
          have c0 := hA3.cell 0
          have c1 := hA3.cell 1
          have c2 := hA3.cell 2
          simp only [List.getElem?_toArray, List.getElem?_cons_zero, List.getElem?_cons_succ] at c0 c1 c2
          have hf1 := ho3.frozenAt (k * 3)
          have hf2 := ho3.frozenAt (k * 3 + 1)
          have hf3 := ho3.frozenAt (k * 3 + 2)
          have hg1 := (ho3.cellAt (k * 3) (by omega)).trans hat.1
          have hg2 := (ho3.cellAt (k * 3 + 1) (by omega)).trans hat.2.1
          have hg3 := (ho3.cellAt (k * 3 + 2) (by omega)).trans hat.2.2
          clear hA3 hat hne
          go_wp2_with fail
          go_roundw
          case rel =>
            refine ⟨k + 1, by omega, by go_num, ?_, ?_⟩
            · rw [← HSET.out]
              exact (((ho3.stored (k * 3) _).1.stored (k * 3 + 1) _).1.stored (k * 3 + 2) _).1
            · exact ((hb3.setCell (Nat.le_refl _) _).setCell (Nat.le_refl _) _).setCell (Nat.le_refl _) _
          case measure => simp [RowKit.intOf]; omega
      | false =>
        have hA2 := hA1
        have ho2 := ho1
        have hb2 := hb1
        clear hA1 ho1 hb1
        have p2 := hA2.cell 2
        simp only [List.getElem?_toArray, List.getElem?_cons_zero, List.getElem?_cons_succ] at p2
        go_wp2_with fail
        refine (HT2.out _ hb2).mono ?_
        rintro e W3 ⟨rfl, hbw⟩
        replace hA2 := hA2.keep hbw
        replace ho2 := own_keep ho2 hbw
        replace hb2 := hb2.trans (hbw.mono hb2.size)
        clear hbw p2
        have hl3 := hA2.lt
        cases b3 with
        | true =>
          have f2 := hA2.frozen 2
          have p2 := hA2.cell 2
          have hA3 : At (W3.setCell ⟨wr.heap.size, 2, none⟩ (.string y3)) wr.heap.size 51 #[.int .i64 x1, .string x2, .string y3] := by simpa using hA2.set 2 (.string y3)
          have ho3 := own_grown ho2 (grown_cellR W3 wr.heap.size 2 (.string y3)) (.inl hne)
          have hb3 : Below w.heap.size w (W3.setCell ⟨wr.heap.size, 2, none⟩ (.string y3)) := hb2.setCell (by simp; omega) _
          clear hA2 ho2 hb2
          have c0 := hA3.cell 0
          have c1 := hA3.cell 1
          have c2 := hA3.cell 2
          simp only [List.getElem?_toArray, List.getElem?_cons_zero, List.getElem?_cons_succ] at c0 c1 c2
          have hf1 := ho3.frozenAt (k * 3)
          have hf2 := ho3.frozenAt (k * 3 + 1)
          have hf3 := ho3.frozenAt (k * 3 + 2)
          have hg1 := (ho3.cellAt (k * 3) (by omega)).trans hat.1
          have hg2 := (ho3.cellAt (k * 3 + 1) (by omega)).trans hat.2.1
          have hg3 := (ho3.cellAt (k * 3 + 2) (by omega)).trans hat.2.2
          clear hA3 hat hne
          go_wp2_with fail
          go_roundw
          case rel =>
            refine ⟨k + 1, by omega, by go_num, ?_, ?_⟩
            · rw [← HSET.out]
              exact (((ho3.stored (k * 3) _).1.stored (k * 3 + 1) _).1.stored (k * 3 + 2) _).1
            · exact ((hb3.setCell (Nat.le_refl _) _).setCell (Nat.le_refl _) _).setCell (Nat.le_refl _) _
          case measure => simp [RowKit.intOf]; omega
        | false =>
          have hA3 := hA2
          have ho3 := ho2
          have hb3 := hb2
          clear hA2 ho2 hb2
          have c0 := hA3.cell 0
          have c1 := hA3.cell 1
          have c2 := hA3.cell 2
          simp only [List.getElem?_toArray, List.getElem?_cons_zero, List.getElem?_cons_succ] at c0 c1 c2
          have hf1 := ho3.frozenAt (k * 3)
          have hf2 := ho3.frozenAt (k * 3 + 1)
          have hf3 := ho3.frozenAt (k * 3 + 2)
          have hg1 := (ho3.cellAt (k * 3) (by omega)).trans hat.1
          have hg2 := (ho3.cellAt (k * 3 + 1) (by omega)).trans hat.2.1
          have hg3 := (ho3.cellAt (k * 3 + 2) (by omega)).trans hat.2.2
          clear hA3 hat hne
          go_wp2_with fail
          go_roundw
          case rel =>
            refine ⟨k + 1, by omega, by go_num, ?_, ?_⟩
            · rw [← HSET.out]
              exact (((ho3.stored (k * 3) _).1.stored (k * 3 + 1) _).1.stored (k * 3 + 2) _).1
            · exact ((hb3.setCell (Nat.le_refl _) _).setCell (Nat.le_refl _) _).setCell (Nat.le_refl _) _
          case measure => simp [RowKit.intOf]; omega
    · have hk' : k = xs.length := by omega
      have ho2 := ho
      rw [hk', ← HXL.out, shalf_full] at ho2
      have HO3 : Hid (wr.ownsRow w.heap.size 51 3 (.slice (some ⟨w.heap.size, 0, none⟩) xs.length xs.length) ys.length (scells ys)) := by
        have := ho2
        rw [show (Value.slice (some ⟨w.heap.size, 0, none⟩) ys.length ys.length) = (Value.slice (some ⟨w.heap.size, 0, none⟩) xs.length xs.length) by rw [HXL.out]] at this
        exact this
      have HK := Lib.hid hk'
      clear hcell ho2 ho hk'
      go_wp2
      go_ret
      exact ⟨_, rfl, HO3.out, hb⟩
end Go.Proofs.YtplapaojgcloaaaGreatDoor
namespace Go.Proofs.YtplapaojgcloaaaGreatDoor
open Go.RowKit Go.PM

set_option maxRecDepth 100000 in
set_option maxHeartbeats 2000000 in
theorem l4Exchange_c (w : World) (B r : Nat) (p : Int) (hr : Rdr w 83 B r p) (p1 : p ≤ 900000) :
    Calls Tryz.prog 75 #[.pointer (some ⟨r, 0, none⟩)] w fun e w' => ∃ v xs p', e = .returned v ∧ w'.ownsRow w.heap.size 37 2 v xs.length (mcells xs) ∧ (xs.length ≤ 65 ∧ ∀ m ∈ xs, m.1.size ≤ 64 ∧ m.2.size ≤ 64) ∧ Rdr w' 83 B r p' ∧ p' ≤ p + 100 ∧ w.grownBy w' (some r) := by
  have hlt : r < w.heap.size := by obtain ⟨_, _, v, n, _, _, h⟩ := hr; exact h.lt
  have HP := Lib.hid (pick_c w B r 3 p hr (by omega) (by omega) (by omega))
  go_enter Tryz.func75, Tryz.ntmps75
  go_wp2_with fail
  refine HP.out.mono ?_
  rintro e w1 ⟨k, rfl, k0, k1, R1, g1⟩
  have hs1 := g1.size
  clear HP
  by_cases h0 : k = 0
  · subst h0
    have HS := Lib.hid (l1Some_c w1 B r (p + 1) R1 (by omega))
    go_wp2_with fail
    refine HS.out.mono ?_
    rintro e w2 ⟨v, xs, p', rfl, ho, hsh, R2, hp', g2⟩
    have HSH := Lib.hid hsh
    have HPP : Hid (p' ≤ p + 100) := by show _ ≤ _; omega
    clear hsh
    go_wp2
    go_ret
    exact ⟨_, xs, p', rfl, own_more ho hs1, HSH.out, R2, HPP.out, grown_trans g1 g2⟩
  · have t0 : (k == 0) = false := by simpa using h0
    go_wp2_with fail
    have L5 := Lits.strs1 w1 9 #[.string ⟨#[97, 98, 99, 100]⟩, .string ⟨#[97, 98, 99]⟩, .string ⟨#[97, 98, 99, 100, 101, 102]⟩, .string ⟨#[97, 66, 99, 65]⟩, .string ⟨#[97, 98, 99, 100, 101, 102, 65, 66, 67]⟩] 40 (by rfl)
    refine (of_c _ B r w1.heap.size 5 (p + 1) (fun s => 1 ≤ s.size ∧ s.size ≤ 40) (R1.keep ((Below.refl _ _).alloc (Nat.le_refl _) _)) (by decide) (by decide) (by omega) L5 (by omega)).mono ?_
    clear L5
    rintro e w2 ⟨from_, rfl, ⟨hf1, hf2⟩, R2, g2⟩
    have G2 := grown_trans g1 (grown_trans (grown_below ((Below.refl _ _).alloc (Nat.le_refl _) (.cells #[.string ⟨#[97, 98, 99, 100]⟩, .string ⟨#[97, 98, 99]⟩, .string ⟨#[97, 98, 99, 100, 101, 102]⟩, .string ⟨#[97, 66, 99, 65]⟩, .string ⟨#[97, 98, 99, 100, 101, 102, 65, 66, 67]⟩] 9)) (some r)) g2)
    have hs2 := G2.size
    clear g1 g2 R1
    go_wp2
    go_loopw [4, 19] (fun o i wr => ∃ (j : Nat) (t : ByteArray) (q : Int), j ≤ from_.size ∧ i = .int .i64 j ∧ o = .string t ∧ t.size = j ∧ Rdr wr 83 B r q ∧ q ≤ p + 2 + (j : Int) ∧ w.grownBy wr (some r)) (fun _ i _ => from_.size - (intOf i).toNat)
    case atStart => exact ⟨0, ⟨#[]⟩, _, by omega, rfl, rfl, rfl, R2, by omega, G2⟩
    case round =>
      obtain ⟨j, t, q, hj, rfl, rfl, ht, R, hq, G⟩ := hrel
      have hsr := G.size
      by_cases hlt2 : j < from_.size
      · have i1 : (j : Int) < (from_.size : Int) := by omega
        have HP4 := Lib.hid (pick_c wr B r ((j : Int) + 1) q R (by omega) (by omega) (by omega))
        go_wp2_with fail
        refine HP4.out.mono ?_
        rintro e w4 ⟨k4, rfl, k40, k41, R4, g4⟩
        obtain ⟨K, rfl⟩ := Int.eq_ofNat_of_zero_le k40
        have G4 := grown_trans G g4
        clear g4 G R HP4
        have q1 : K ≤ t.size := by omega
        have q2 : (K : Int) ≤ (t.size : Int) := by omega
        have z1 : (t.extract 0 K).size = K := by rw [ByteArray.size_extract]; omega
        have z2 : (from_.extract j (j + 1)).size = 1 := by rw [ByteArray.size_extract]; omega
        have z3 : (t.extract K j).size = j - K := by rw [ByteArray.size_extract]; omega
        have z4 : (t.extract 0 K ++ from_.extract j (j + 1)).size = K + 1 := by rw [ByteArray.size_append]; omega
        have ZZ : Hid ((t.extract 0 K ++ from_.extract j (j + 1) ++ t.extract K j).size = j + 1) := by
          show _ = _
          rw [ByteArray.size_append]; omega
        go_wp2
        refine wp_region_quiet (C := fun w' => w' = w4.drew) (by kernel_rfl) (by kernel_rfl) rfl ?_
        simp only
        repeat (go_big_quiet_step (fail))
        refine wpQuiet_nil ?_
        intro w' hw'
        subst hw'
        have Rd4 : Rdr w4.drew 83 B r (q + 1) := R4
        have Gd4 : w.grownBy w4.drew (some r) := ⟨G4.os, G4.tape, G4.output, G4.size, G4.block⟩
        clear R4 G4
        go_wp2
        go_roundw
        case rel => exact ⟨j + 1, t.extract 0 K ++ from_.extract j (j + 1) ++ t.extract K j, q + 1, by omega, by go_num, rfl, ZZ.out, Rd4, by omega, Gd4⟩
        case measure => simp [intOf]; omega
      · have hje : j = from_.size := by omega
        have hE := World.ownsRow_lit (e := 37) (base := w.heap.size) (size := 2) wr #[] 0 hsr (Nat.zero_le _) rfl
        have RE := R.keep ((Below.refl _ _).alloc (Nat.le_refl _) (.cells #[] 37))
        have GE := grown_trans G (grown_below ((Below.refl _ _).alloc (Nat.le_refl _) (.cells #[] 37)) (some r))
        have hto : t.size = from_.size := by omega
        clear R G
        go_wp2
        have HQQ : Hid (q ≤ p + 100) := by show _ ≤ _; omega
        clear ht hj hje hq
        rename World => wo
        go_loopw [7, 43] (fun o i wr => ∃ (j : Nat) (xs : List Mv), j ≤ from_.size ∧ i = .int .i64 j ∧ xs.length = j ∧ Hid (∀ m ∈ xs, m.1.size ≤ 64 ∧ m.2.size ≤ 64) ∧ wr.ownsRow w.heap.size 37 2 o xs.length (mcells xs) ∧ Rdr wr 83 B r q ∧ w.grownBy wr (some r)) (fun _ i _ => from_.size - (intOf i).toNat)
        case atStart => exact ⟨0, [], by omega, rfl, rfl, (fun m hm => by cases hm), hE, RE, GE⟩
        case round =>
          obtain ⟨j, xs, hj, rfl, hxl, hxs, ho, R, G⟩ := hrel
          have hsr2 := G.size
          by_cases hlt2 : j < from_.size
          · have i1 : (j : Int) < (from_.size : Int) := by omega
            have z1 : (from_.extract j (j + 1)).size = 1 := by rw [ByteArray.size_extract]; omega
            have z2 : (t.extract j (j + 1)).size = 1 := by rw [ByteArray.size_extract]; omega
            have HXA : Hid (∀ m ∈ xs ++ [(from_.extract j (j + 1), t.extract j (j + 1))], m.1.size ≤ 64 ∧ m.2.size ≤ 64) := fun m hm => by
              rcases List.mem_append.1 hm with h | h
              · exact hxs.out m h
              · have e : m = (from_.extract j (j + 1), t.extract j (j + 1)) := by simpa using h
                rw [e]
                exact ⟨by show (from_.extract j (j + 1)).size ≤ 64; omega, by show (t.extract j (j + 1)).size ≤ 64; omega⟩
            generalize hx1 : from_.extract j (j + 1) = x1 at *
            generalize hx2 : t.extract j (j + 1) = x2 at *
            have hnw := two_new wr.drew (.string x1) (.string x2) 37
            have hlr : r < wr.heap.size := by have := G.size; omega
            go_wp2
            refine region_late_wide (m := 0) (C := fun w' => w' = wr.drew) (D := fun _ => True) 12 (by kernel_rfl) (by kernel_rfl) _ _ (by rfl) (by rfl) (by rfl) u7 (by intro _ _ _ h; exact h) (yieldsD_move (by rfl) _ (by rfl) u7 (by rfl)) (fun _ _ => trivial) rfl ?_
            simp only [List.take_succ_cons, List.take_zero, List.drop_succ_cons, List.drop_zero, Nat.reduceSub, Nat.reduceAdd]
            simp only [Act.put, List.setIfInBounds_toArray, List.set_cons_succ, List.set_cons_zero]
            repeat (gi_big_quiet_step (fail))
            refine wpQuietIn_nil ?_
            intro w' hw' K hK
            subst hw'
            refine sliceIn_mv (.tmp 57) rfl x1 x2 (by rfl) ?_
            refine hK _ _ trivial ?_
            clear hK K
            simp only [Act.put, List.setIfInBounds_toArray, List.set_cons_succ, List.set_cons_zero]
            have hod : wr.drew.ownsRow w.heap.size 37 2 u7 xs.length (mcells xs) := ho
            have hzd : wr.drew.heap.size = wr.heap.size := rfl
            refine listIn_mv rfl (.tmp 46) (.tmp 58) rfl w.heap.size u7 xs (x1, x2) ⟨wr.drew.heap.size, 0, none⟩ 1 (by rfl) (by rfl) (own_keep hod ((Below.refl _ _).alloc (Nat.le_refl _) _)) hnw (by omega) (by simp; omega) ?_
            intro v' w3 hown3 hgrow3
            have hge := own_block_ge ho
            have Rd3 : Rdr wr.drew 83 B r q := R
            have Gd3 : w.grownBy wr.drew (some r) := ⟨G.os, G.tape, G.output, G.size, G.block⟩
            have R6 := (Rd3.keep ((Below.refl _ _).alloc (Nat.le_refl _) (.cells #[.string x1, .string x2] 37))).grow hgrow3 (fun g e => by have := hge g e; omega)
            have G6 := grown_over (grown_trans Gd3 (grown_below ((Below.refl _ _).alloc (Nat.le_refl _) (.cells #[.string x1, .string x2] 37)) (some r))) hgrow3 hge
            clear ho R G hod Rd3 Gd3 hge hgrow3 hnw hxs
            gi_wp2
            go_wp2
            go_roundw
            case rel => exact ⟨j + 1, xs ++ [(x1, x2)], by omega, by go_num, by simp; omega, HXA, hown3, R6, G6⟩
            case measure => simp [intOf]; omega
          · have hje2 : j = from_.size := by omega
            go_wp2
            go_ret
            exact ⟨_, xs, q, rfl, ho, ⟨by omega, hxs.out⟩, R, HQQ.out, G⟩
end Go.Proofs.YtplapaojgcloaaaGreatDoor
namespace Go.Proofs.YtplapaojgcloaaaGreatDoor
open Go.RowKit Go.PM

end Go.Proofs.YtplapaojgcloaaaGreatDoor
namespace Go.PM
open Go.RowKit
def strOkC (n : Nat) : Value → Bool
  | .string s => decide (1 ≤ s.size) && decide (s.size ≤ n) && (List.range s.size).all fun J => isC (s.extract J (J + 1))
  | _ => false
theorem Lits.strsC (w : World) (t : TypeId) (cs : Array Value) (n : Nat) (h : cs.toList.all (strOkC n) = true) : Lits (w.alloc (.cells cs t)) w.heap.size cs.size (fun u => ∃ s, u = .string s ∧ 1 ≤ s.size ∧ s.size ≤ n ∧ ∀ J, J < s.size → isC (s.extract J (J + 1)) = true) :=
  Lits.new w t cs _ fun u hu => by
    have h2 := List.all_eq_true.1 h u hu
    unfold strOkC at h2
    split at h2
    · rw [Bool.and_eq_true, Bool.and_eq_true, decide_eq_true_eq, decide_eq_true_eq, List.all_eq_true] at h2
      exact ⟨_, rfl, h2.1.1, h2.1.2, fun J hJ => h2.2 J (List.mem_range.2 hJ)⟩
    · cases h2
/-- the digits, and their texts -/
def dg (n : Nat) : ByteArray := ⟨#[UInt8.ofNat (48 + n)]⟩
theorem dg_isD {n : Nat} (h : n < 10) : isD (dg n) = true := by
  match n, h with
  | 0, _ | 1, _ | 2, _ | 3, _ | 4, _ | 5, _ | 6, _ | 7, _ | 8, _ | 9, _ => decide +kernel
theorem own_take {w : World} {base n k : Nat} {e : TypeId} {A : Option Addr} {cap : Nat} {xs : List St} (h : w.ownsRow base e 3 (.slice A n cap) xs.length (scells xs)) (hk : k ≤ xs.length) : w.ownsRow base e 3 (.slice A k cap) k (scells (xs.take k)) := by
  have hs : (scells (xs.take k)).length = k * 3 := by rw [scells_length, List.length_take, Nat.min_eq_left hk]
  refine ⟨hs, ?_⟩
  rcases h.2 with ⟨e1, e2⟩ | ⟨g, cap', cur, e1, h1, h2, h3, h4, h5, h6⟩
  · cases e1
    left
    refine ⟨?_, by omega⟩
    rw [show k = 0 by omega]
  · cases e1
    right
    refine ⟨g, _, cur, rfl, h1, h2, by omega, h4, h5, ?_⟩
    have e3 : scells xs = scells (xs.take k) ++ scells (xs.drop k) := by rw [← scells_append, List.take_append_drop]
    have e2 : scells (xs.take k) = (scells xs).take (k * 3) := by
      rw [e3]; exact (List.take_left' hs).symm
    rw [e2, ← h6, List.take_take, Nat.min_eq_left (by omega)]
def shS (m : Nat) (xs : List St) : Prop := xs.length ≤ m ∧ ∀ x ∈ xs, x.2.1.size ≤ 64 ∧ x.2.2.size ≤ 64
def okL (xs : List St) : Prop := ∀ x ∈ xs, stOk x = true
theorem okL_sh {m : Nat} {xs : List St} (h : okL xs) (hl : xs.length ≤ m) : shS m xs := by
  refine ⟨hl, fun x hx => ?_⟩
  have h1 := h x hx
  unfold stOk at h1
  rw [Bool.or_eq_true] at h1
  rcases h1 with h1 | h1
  · simp only [Bool.and_eq_true, Bool.or_eq_true] at h1
    have a := isC_size h1.2.1
    rcases h1.2.2 with h2 | h2
    · have b := isC_size h2; omega
    · have b := isD_size h2; omega
  · simp only [Bool.and_eq_true] at h1
    have a := isC_size h1.2.1
    have b := isC_size h1.2.2
    omega
theorem three_at {w : World} {g : Nat} {t : TypeId} {x y z : Value} (h : At w g t #[x, y, z]) : w.cell? ⟨g, 0, none⟩ = some x ∧ w.cell? ⟨g, 1, none⟩ = some y ∧ w.cell? ⟨g, 2, none⟩ = some z := ⟨h.cell 0, h.cell 1, h.cell 2⟩
end Go.PM
namespace Go.Proofs.YtplapaojgcloaaaGreatDoor
open Go.RowKit Go.PM
attribute [local go_sem] Oper.semAt_some

theorem infoSt2 : (Tryz.prog.info? 51).map (fun i => (i.zero, i.size, i.bytes)) = some (some (.agg #[.int .i64 0, .string ⟨#[]⟩, .string ⟨#[]⟩]), 3, 40) := by kernel_rfl
theorem app_st {ops : Array Oper} {rest : List Oper} {o : Oper} {a : Act} {Q : Exit → Act → World → Prop} {w : World} (hgd : o.guard = none) (s x : Operand)
    (ho : o.op = .call { callee := .builtin .append, args := #[s, x], argTypes := #[26, 26] })
    (base : Nat) (v : Value) (ys : List St) (m : St) (ad : Addr) (c : Nat) (hs : a.eval s = v) (hx : a.eval x = .slice (some ad) 1 c)
    (hown : w.ownsRow base 51 3 v ys.length (scells ys)) (hnew : ∀ j u, [Value.int .i64 m.1, Value.string m.2.1, Value.string m.2.2][j]? = some u → w.cell? (ad.add j) = some u)
    (hlen : ys.length ≤ 1048576) (hbase : base ≤ w.heap.size)
    (h : ∀ v' w', w'.ownsRow base 51 3 v' (ys ++ [m]).length (scells (ys ++ [m])) → w.grownBy w' v.ownBlock → wpList Tryz.prog ops Q rest (a.put o.dst v') w') : wpList Tryz.prog ops Q (o :: rest) a w := by
  obtain ⟨i0, hi0, hz0, hz1, hz2⟩ := info_parts infoSt2
  refine wpList_append_own w hgd s x _ ho base 51 i0 _ 3 40 Tryz.underlying26 hi0 hz0 hz1 hz2 rfl (by omega) v ys.length (scells ys) hs hown ad 1 c [Value.int .i64 m.1, Value.string m.2.1, Value.string m.2.2] hx rfl hnew
    (by intro u hu; simp at hu; rcases hu with rfl | rfl | rfl <;> rfl) (by simp only [maxLen]; omega) (by omega) hbase ?_
  intro v' w' h2 h3 _
  refine h v' w' ?_ h3
  have hcs : scells ys ++ [Value.int .i64 m.1, Value.string m.2.1, Value.string m.2.2] = scells (ys ++ [m]) := by rw [scells_append]; simp [scells]
  rw [← hcs, List.length_append]
  simpa using h2
theorem own_block_lt {w : World} {base n : Nat} {e : TypeId} {s : Nat} {v : Value} {cs : List Value} (h : w.ownsRow base e s v n cs) : ∀ g, v.ownBlock = some g → g < w.heap.size := by
  intro g hg
  rcases h.2 with ⟨rfl, _⟩ | ⟨g', cap, cur, rfl, _, hh, _⟩
  · cases hg
  · cases hg
    exact (Array.getElem?_eq_some_iff.1 hh).1
/-- a step in a block of its own, and what is known of the rest -/
def StepIn (w W : World) (sb B r : Nat) (u3 : Value) (xs : List St) (q : Int) (y : Int) (a b : ByteArray) : Prop :=
  At W sb 51 #[.int .i64 y, .string a, .string b] ∧ Rdr W 83 B r q ∧ W.ownsRow w.heap.size 51 3 u3 xs.length (scells xs) ∧ w.grownBy W (some r) ∧ r < sb ∧ w.heap.size ≤ sb ∧ u3.ownBlock ≠ some sb
theorem stepIn_new {w w6 : World} {B r : Nat} {u3 : Value} {xs : List St} {q : Int} (y : Int) (a b : ByteArray) (h : Rdr w6 83 B r q ∧ w6.ownsRow w.heap.size 51 3 u3 xs.length (scells xs) ∧ w.grownBy w6 (some r)) :
    StepIn w (w6.alloc (.cells #[.int .i64 y, .string a, .string b] 51)) w6.heap.size B r u3 xs q y a b := by
  have hb : Below w6.heap.size w6 (w6.alloc (.cells #[.int .i64 y, .string a, .string b] 51)) := (Below.refl _ _).alloc (Nat.le_refl _) _
  exact ⟨At.new _ _ _, h.1.keep hb, own_keep h.2.1 hb, grown_trans h.2.2 (grown_below hb (some r)), by obtain ⟨_, _, v, n, _, _, h⟩ := h.1; exact h.lt, h.2.2.size, fun e => by have := own_block_lt h.2.1 _ e; omega⟩
theorem stepIn_set {w w6 : World} {sb B r : Nat} {u3 : Value} {xs : List St} {q y0 : Int} {a0 b0 : ByteArray} (y : Int) (a b : ByteArray) (h : StepIn w w6 sb B r u3 xs q y0 a0 b0) :
    StepIn w (((w6.setCell ⟨sb, 0, none⟩ (.int .i64 y)).setCell ⟨sb, 1, none⟩ (.string a)).setCell ⟨sb, 2, none⟩ (.string b)) sb B r u3 xs q y a b := by
  obtain ⟨h1, h2, h3, h4, h5, h6, h7⟩ := h
  have g1 := grown_set w6 sb 0 (.int .i64 y)
  have g2 := grown_set (w6.setCell ⟨sb, 0, none⟩ (.int .i64 y)) sb 1 (.string a)
  have g3 := grown_set ((w6.setCell ⟨sb, 0, none⟩ (.int .i64 y)).setCell ⟨sb, 1, none⟩ (.string a)) sb 2 (.string b)
  have g := grown_trans (grown_trans g1 g2) g3
  refine ⟨?_, h2.grow g (fun g e => by cases e; exact h5), own_grown h3 g (.inl h7), grown_over h4 g (fun g e => by cases e; exact h6), h5, h6, h7⟩
  have := ((h1.set 0 (.int .i64 y)).set 1 (.string a)).set 2 (.string b)
  simpa using this
theorem stepIn_from {w w6 : World} {sb B r : Nat} {u3 : Value} {xs : List St} {q y0 : Int} {a0 b0 : ByteArray} (b : ByteArray) (h : StepIn w w6 sb B r u3 xs q y0 a0 b0) :
    StepIn w (w6.setCell ⟨sb, 2, none⟩ (.string b)) sb B r u3 xs q y0 a0 b := by
  obtain ⟨h1, h2, h3, h4, h5, h6, h7⟩ := h
  have g := grown_set w6 sb 2 (.string b)
  refine ⟨?_, h2.grow g (fun g e => by cases e; exact h5), own_grown h3 g (.inl h7), grown_over h4 g (fun g e => by cases e; exact h6), h5, h6, h7⟩
  have := h1.set 2 (.string b)
  simpa using this
theorem stepIn_pick {w w6 w7 : World} {sb B r : Nat} {u3 : Value} {xs : List St} {q q' y0 : Int} {a0 b0 : ByteArray} (hlt : r < w.heap.size) (h : StepIn w w6 sb B r u3 xs q y0 a0 b0) (hg : w6.grownBy w7 (some r)) (hR : Rdr w7 83 B r q') : StepIn w w7 sb B r u3 xs q' y0 a0 b0 := by
  obtain ⟨h1, h2, h3, h4, h5, h6, h7⟩ := h
  have hne : u3.ownBlock ≠ some r := fun e => by have := own_block_ge h3 r e; omega
  exact ⟨h1.grown hg (fun e => by have := Option.some.inj e; omega), hR, own_grown h3 hg (.inl hne), grown_trans h4 hg, h5, h6, h7⟩
theorem stepIn_below {w w6 w7 : World} {sb B r : Nat} {u3 : Value} {xs : List St} {q y0 : Int} {a0 b0 : ByteArray} (h : StepIn w w6 sb B r u3 xs q y0 a0 b0) (hb : Below w6.heap.size w6 w7) : StepIn w w7 sb B r u3 xs q y0 a0 b0 := by
  obtain ⟨h1, h2, h3, h4, h5, h6, h7⟩ := h
  exact ⟨h1.keep hb, h2.keep hb, own_keep h3 hb, grown_trans h4 (grown_below hb (some r)), h5, h6, h7⟩
theorem okL_snoc {xs : List St} {x : St} (h : okL xs) (hx : stOk x = true) : okL (xs ++ [x]) := by
  intro y hy
  rcases List.mem_append.1 hy with h1 | h1
  · exact h y h1
  · rw [List.mem_singleton] at h1; rw [h1]; exact hx
end Go.Proofs.YtplapaojgcloaaaGreatDoor
namespace Go.PM
open Go.RowKit
def vlen : Value → Nat
  | .slice _ n _ => n
  | _ => 0
end Go.PM
namespace Go.Proofs.YtplapaojgcloaaaGreatDoor
open Go.RowKit Go.PM
attribute [local go_sem] Oper.semAt_some

end Go.Proofs.YtplapaojgcloaaaGreatDoor
