import Derived.Test.YtnhncbhhlbcieaaSlI4
import Derived.Test.YtnhncbhhlbcieaaHar2
namespace Go.PD
open Go.PM Go.RowKit Go.Lib
theorem ar_len {xs : List St} {free : List UInt8} (h : arF xs free = true) : free.length ≤ 2 := by
  unfold arF at h
  rw [Bool.and_eq_true, decide_eq_true_eq] at h
  exact h.1.1
theorem frS_len (xs : List St) (free : List UInt8) : (frS xs free).length ≤ 1048576 := by
  unfold frS
  split
  · next h =>
    unfold frOk at h
    rw [Bool.and_eq_true] at h
    have := svalid_len h.1
    simp; omega
  · simp
theorem frX_len (xs : List St) (free : List UInt8) : (xs.map (frX free)).length = xs.length := by simp
def tlB (tb : ByteArray → Bool) (tt : ByteArray → ByteArray) (a : ByteArray) : ByteArray := if tb a then tt a else a
def tlX (tb : ByteArray → Bool) (tt : ByteArray → ByteArray) (x : St) : St := (x.1, tlB tb tt x.2.1, tlB tb tt x.2.2)
theorem tlX_len (tb : ByteArray → Bool) (tt : ByteArray → ByteArray) (xs : List St) : (xs.map (tlX tb tt)).length = xs.length := by simp
theorem grown_cellR (W : World) (b i : Nat) (v : Value) : W.grownBy (W.setCell ⟨b, i, none⟩ v) (some b) :=
  ⟨rfl, rfl, rfl, by simp [World.size_setCell], fun k _ hne => heap_setCell_other W _ k v (fun e => hne (by rw [e]))⟩
/-- whether a name is that of a spare place for which there is a free register -/
def frT (fl : List UInt8) (a : ByteArray) : Bool := decide ((a = ⟨#[116]⟩ ∧ 0 < fl.length) ∨ (a = spU ∧ 1 < fl.length))
def frV (fl : List UInt8) (a : ByteArray) : ByteArray := if frT fl a then frN fl a else ⟨#[]⟩
theorem fr_tl (fl : List UInt8) (a : ByteArray) : tlB (frT fl) (frV fl) a = frN fl a := by
  unfold tlB frV
  rcases Bool.eq_false_or_eq_true (frT fl a) with h | h
  · rw [if_pos h, if_pos h]
  · rw [if_neg (by rw [h]; decide)]
    unfold frT at h
    have h2 := of_decide_eq_false h
    unfold frN
    rw [if_neg (fun e => h2 (.inl e)), if_neg (fun e => h2 (.inr e))]
theorem fr_map (fl : List UInt8) (xs : List St) : xs.map (tlX (frT fl) (frV fl)) = xs.map (frX fl) := by
  refine List.map_congr_left fun x _ => ?_
  unfold tlX frX
  rw [fr_tl, fr_tl]
theorem frT_yes {fl : List UInt8} {a : ByteArray} (h : (a = ⟨#[116]⟩ ∧ 0 < fl.length) ∨ (a = spU ∧ 1 < fl.length)) : frT fl a = true ∧ frV fl a = frN fl a := by
  have e : frT fl a = true := decide_eq_true h
  exact ⟨e, by unfold frV; rw [if_pos e]⟩
theorem frT_no {fl : List UInt8} {a : ByteArray} (h : ¬ ((a = ⟨#[116]⟩ ∧ 0 < fl.length) ∨ (a = spU ∧ 1 < fl.length))) : frT fl a = false ∧ frV fl a = ⟨#[]⟩ := by
  have e : frT fl a = false := decide_eq_false h
  exact ⟨e, by unfold frV; rw [if_neg (by rw [e]; decide)]⟩
end Go.PD
namespace Go.Proofs.Ytnhncbhhlbcieaa
open Go.RowKit Go.PM Go.PD Go.Lib

set_option maxHeartbeats 800000 in
theorem tellF_c (p : Nat) (a free : ByteArray) (hs : free.size ≤ 2) (w : World) (hA : At w p 9 #[.string free]) :
    Calls Try.prog 19 #[.string a, .pointer (some ⟨p, 0, none⟩)] w fun e w' => e = .returned (.tuple #[.string (frV free.data.toList a), .bool (frT free.data.toList a)]) ∧ Below w.heap.size w w' := by
  have hfl : free.data.toList.length = free.size := size_data free
  have c1 : w.cell? ⟨p, 0, none⟩ = some (.string free) := hA.cell 0
  clear hA
  by_cases ht : a = ⟨#[116]⟩
  · subst ht
    have h5 := fun W => positionIn_yes ⟨#[116, 117]⟩ 116 0 (by decide) W
    by_cases h0 : 0 < free.size
    · have HX := Lib.hid (extract_one free 0 h0)
      have HF := Lib.hid (frN_t (free := free.data.toList) (by omega))
      have HT := Lib.hid (frT_yes (fl := free.data.toList) (a := ⟨#[116]⟩) (.inl ⟨rfl, by omega⟩))
      have t1 : ¬ free = ByteArray.empty := fun e => by rw [e] at h0; exact absurd h0 (by decide)
      have t2 : (1 : Int) ≤ (free.size : Int) := by omega
      clear hfl
      go_enter Try.func19, Try.ntmps19
      go_wp2_with (go_at_call 20; refine (h5 _).mono ?_; rintro e w' ⟨rfl, rfl⟩)
      go_ret2
      exact ⟨by rw [HT.out.1, HT.out.2, HF.out, ← HX.out]; rfl, Below.refl _ _⟩
    · have HT := Lib.hid (frT_no (fl := free.data.toList) (a := ⟨#[116]⟩) (by rintro (⟨_, h⟩ | ⟨_, h⟩) <;> omega))
      have t1 : free = ByteArray.empty := ByteArray.size_eq_zero_iff.1 (by omega)
      clear hfl
      go_enter Try.func19, Try.ntmps19
      go_wp2_with (go_at_call 20; refine (h5 _).mono ?_; rintro e w' ⟨rfl, rfl⟩)
      go_ret2
      exact ⟨by rw [HT.out.1, HT.out.2]; rfl, Below.refl _ _⟩
  by_cases hu : a = spU
  · subst hu
    have h5 := fun W => positionIn_yes ⟨#[116, 117]⟩ 117 1 (by decide) W
    by_cases h0 : 1 < free.size
    · have HX := Lib.hid (extract_one free 1 h0)
      have HF := Lib.hid (frN_u (free := free.data.toList) (by omega))
      have HT := Lib.hid (frT_yes (fl := free.data.toList) (a := spU) (.inr ⟨rfl, by omega⟩))
      have t1 : ¬ (free.size : Int) ≤ 1 := by omega
      have t2 : (2 : Int) ≤ (free.size : Int) := by omega
      clear hfl ht
      go_enter Try.func19, Try.ntmps19
      go_wp2_with (go_at_call 20; refine (h5 _).mono ?_; rintro e w' ⟨rfl, rfl⟩)
      go_ret2
      exact ⟨by rw [HT.out.1, HT.out.2, HF.out, ← HX.out]; rfl, Below.refl _ _⟩
    · have HT := Lib.hid (frT_no (fl := free.data.toList) (a := spU) (by
        rintro (⟨h, _⟩ | ⟨_, h⟩)
        · exact ht h
        · omega))
      have t1 : (free.size : Int) ≤ 1 := by omega
      clear hfl ht
      go_enter Try.func19, Try.ntmps19
      go_wp2_with (go_at_call 20; refine (h5 _).mono ?_; rintro e w' ⟨rfl, rfl⟩)
      go_ret2
      exact ⟨by rw [HT.out.1, HT.out.2]; rfl, Below.refl _ _⟩
  · have h5 := fun W => positionIn_no ⟨#[116, 117]⟩ a (fun c hc hm => by
      subst hc
      have : c = 116 ∨ c = 117 := by simpa using hm
      rcases this with rfl | rfl
      · exact ht rfl
      · exact hu rfl) W
    have HT := Lib.hid (frT_no (fl := free.data.toList) (a := a) (by
      rintro (⟨h, _⟩ | ⟨h, _⟩)
      · exact ht h
      · exact hu h))
    clear ht hu hfl
    go_enter Try.func19, Try.ntmps19
    go_wp2_with (go_at_call 20; refine (h5 _).mono ?_; rintro e w' ⟨rfl, rfl⟩)
    go_ret2
    exact ⟨by rw [HT.out.1, HT.out.2]; rfl, Below.refl _ _⟩
set_option maxRecDepth 100000 in
set_option maxHeartbeats 1600000 in
theorem renameF_c (tb : ByteArray → Bool) (tt : ByteArray → ByteArray) (c1 : Value) (xs : List St) (v : Value) (w : World) (hlen : xs.length ≤ 1048576) (hx : RdS w v xs)
    (htl : ∀ a W, Below w.heap.size w W → Calls Try.prog 19 #[.string a, c1] W fun e w' => e = .returned (.tuple #[.string (tt a), .bool (tb a)]) ∧ Below W.heap.size W w') :
    Calls Try.prog 18 #[v, .func (.func 19) #[] #[c1]] w fun e w' => ∃ v', e = .returned v' ∧ w'.ownsRow w.heap.size 40 3 v' (xs.map (tlX tb tt)).length (scells (xs.map (tlX tb tt))) ∧ Below w.heap.size w w' := by
  have HTL := Lib.hid htl
  clear htl
  have HXA : Hid (∀ k (hk : k < (xs.map (tlX tb tt)).length) (hk2 : k < xs.length), (xs.map (tlX tb tt))[k] = (xs[k].1, tlB tb tt xs[k].2.1, tlB tb tt xs[k].2.2)) := fun k hk hk2 => by rw [List.getElem_map]; rfl
  have HXL := Lib.hid (tlX_len tb tt xs)
  generalize xs.map (tlX tb tt) = ys at *
  obtain ⟨i0, hi0, hz0, hz1, hz2⟩ := info_parts infoSt
  have hmk := fun W : World => run_make (P := Try.prog) W 24 40 i0 _ Try.underlying24 hi0 hz0 .i64 .i64 xs.length xs.length (by omega) (Int.le_refl _) (by rw [hz2]; omega) (by omega)
  simp only [Int.toNat_natCast, hz1] at hmk
  obtain ⟨A, cap, rfl, hn, hc, hcell⟩ := hx.open
  clear hx
  have hO := own_made w w.heap.size 40 #[Value.int .i64 0, Value.string ⟨#[]⟩, Value.string ⟨#[]⟩] 3 xs.length rfl (by omega) (by omega) (Nat.le_refl _)
  have hB : Below w.heap.size w (w.alloc (Obj.cells (madeCells #[Value.int .i64 0, Value.string ⟨#[]⟩, Value.string ⟨#[]⟩] (xs.length * 3)) 40)) := (Below.refl _ _).alloc (Nat.le_refl _) _
  go_enter Try.func18, Try.ntmps18
  go_wp2
  generalize (w.alloc (Obj.cells (madeCells #[Value.int .i64 0, Value.string ⟨#[]⟩, Value.string ⟨#[]⟩] (xs.length * 3)) 40)) = W1 at *
  have HZ0 : Hid (shalf ys 0 = (List.replicate xs.length zSt).flatten) := by show _ = _; rw [shalf_zero, HXL.out]
  go_loopw [6, 7, 8, 9, 10, 11, 17] (fun _ _ _ _ _ _ i wr => ∃ (k : Nat), k ≤ xs.length ∧ i = .int .i64 k ∧ wr.ownsRow w.heap.size 40 3 (.slice (some ⟨w.heap.size, 0, none⟩) xs.length xs.length) xs.length (shalf ys k) ∧ Below w.heap.size w wr) (fun _ _ _ _ _ _ i _ => xs.length - (RowKit.intOf i).toNat)
  case atStart => exact ⟨0, by omega, rfl, by rw [HZ0.out]; exact hO, hB⟩
  case round =>
    clear hO hB
    obtain ⟨k, hk, rfl, ho, hb⟩ := hrel
    have hbs := hb.size
    by_cases hlt : k < xs.length
    · obtain ⟨b, off, rfl, hbl, hc1, hc2, hc3⟩ := hcell k hlt
      have hd1 := (hb.cell (p := ⟨b, off + k * 3, none⟩) hbl).trans hc1
      have hd2 := (hb.cell (p := ⟨b, off + k * 3 + 1, none⟩) hbl).trans hc2
      have hd3 := (hb.cell (p := ⟨b, off + k * 3 + 2, none⟩) hbl).trans hc3
      have hky : k < ys.length := by rw [HXL.out]; exact hlt
      have hyk := HXA.out k hky hlt
      have hset := shalf_set ys k hky
      have hat := shalf_at ys k hky
      rw [hyk] at hset
      have HSET := Lib.hid hset
      clear hc1 hc2 hc3 hcell hyk hset
      have HT1 := Lib.hid (fun W hW => HTL.out xs[k].2.1 W hW)
      have HT2 := Lib.hid (fun W hW => HTL.out xs[k].2.2 W hW)
      have hol := (own_lt ho).1
      unfold tlB at HSET
      generalize tb xs[k].2.1 = b2 at *
      generalize tb xs[k].2.2 = b3 at *
      generalize tt xs[k].2.1 = y2 at *
      generalize tt xs[k].2.2 = y3 at *
      generalize xs[k].1 = x1 at *
      generalize xs[k].2.1 = x2 at *
      generalize xs[k].2.2 = x3 at *
      have hA1 : At (wr.alloc (.cells #[.int .i64 x1, .string x2, .string x3] 40)) wr.heap.size 40 #[.int .i64 x1, .string x2, .string x3] := At.new _ _ _
      have hb1 : Below w.heap.size w (wr.alloc (.cells #[.int .i64 x1, .string x2, .string x3] 40)) := hb.alloc hbs _
      have ho1 : (wr.alloc (.cells #[.int .i64 x1, .string x2, .string x3] 40)).ownsRow w.heap.size 40 3 (.slice (some ⟨w.heap.size, 0, none⟩) xs.length xs.length) xs.length (shalf ys k) := own_keep ho ((Below.refl _ _).alloc (Nat.le_refl _) _)
      have hne : (Value.slice (some ⟨w.heap.size, 0, none⟩) xs.length xs.length).ownBlock ≠ some wr.heap.size := fun e => by have : w.heap.size = wr.heap.size := Option.some.inj e; omega
      have i0' : (0 : Int) ≤ (k : Int) := by omega
      have i1' : (k : Int) < (xs.length : Int) := by omega
      clear hb ho
      have hl1 := hA1.lt
      have p1 := hA1.cell 1
      go_wp2_with fail
      refine (HT1.out _ hb1).mono ?_
      rintro e W2 ⟨rfl, hbw⟩
      replace hA1 := hA1.keep hbw
      replace ho1 := own_keep ho1 hbw
      replace hb1 := hb1.trans (hbw.mono hb1.size)
      clear hbw hl1 p1
      have hl1 := hA1.lt
      cases b2 with
      | true =>
        have f1 := hA1.frozen 1
        have p1 := hA1.cell 1
        have hA2 : At (W2.setCell ⟨wr.heap.size, 1, none⟩ (.string y2)) wr.heap.size 40 #[.int .i64 x1, .string y2, .string x3] := by simpa using hA1.set 1 (.string y2)
        have ho2 := own_grown ho1 (grown_cellR W2 wr.heap.size 1 (.string y2)) (.inl hne)
        have hb2 : Below w.heap.size w (W2.setCell ⟨wr.heap.size, 1, none⟩ (.string y2)) := hb1.setCell (by simp; omega) _
        clear hA1 ho1 hb1
        have p2 := hA2.cell 2
        simp only [List.getElem?_toArray, List.getElem?_cons_zero, List.getElem?_cons_succ] at p2
        go_wp2_with fail
        refine (HT2.out _ hb2).mono ?_
        rintro e W3 ⟨rfl, hbw⟩
        replace hA2 := hA2.keep hbw
        replace ho2 := own_keep ho2 hbw
        replace hb2 := hb2.trans (hbw.mono hb2.size)
        clear hbw p2 f1 p1
        have hl3 := hA2.lt
        cases b3 with
        | true =>
          have f2 := hA2.frozen 2
          have p2 := hA2.cell 2
          have hA3 : At (W3.setCell ⟨wr.heap.size, 2, none⟩ (.string y3)) wr.heap.size 40 #[.int .i64 x1, .string y2, .string y3] := by simpa using hA2.set 2 (.string y3)
          have ho3 := own_grown ho2 (grown_cellR W3 wr.heap.size 2 (.string y3)) (.inl hne)
          have hb3 : Below w.heap.size w (W3.setCell ⟨wr.heap.size, 2, none⟩ (.string y3)) := hb2.setCell (by simp; omega) _
          clear hA2 ho2 hb2
          have c0 := hA3.cell 0
          have c1 := hA3.cell 1
          have c2 := hA3.cell 2
          simp only [List.getElem?_toArray, List.getElem?_cons_zero, List.getElem?_cons_succ] at c0 c1 c2
          have hf1 := ho3.frozenAt (k * 3)
          have hf2 := ho3.frozenAt (k * 3 + 1)
          have hf3 := ho3.frozenAt (k * 3 + 2)
          have hg1 := (ho3.cellAt (k * 3) (by omega)).trans hat.1
          have hg2 := (ho3.cellAt (k * 3 + 1) (by omega)).trans hat.2.1
          have hg3 := (ho3.cellAt (k * 3 + 2) (by omega)).trans hat.2.2
          clear hA3 hat hne
          go_wp2_with fail
          go_roundw
          case rel =>
            refine ⟨k + 1, by omega, by go_num, ?_, ?_⟩
            · rw [← HSET.out]
              exact (((ho3.stored (k * 3) _).1.stored (k * 3 + 1) _).1.stored (k * 3 + 2) _).1
            · exact ((hb3.setCell (Nat.le_refl _) _).setCell (Nat.le_refl _) _).setCell (Nat.le_refl _) _
          case measure => simp [RowKit.intOf]; omega
        | false =>
          have hA3 := hA2
          have ho3 := ho2
          have hb3 := hb2
          clear hA2 ho2 hb2
          have c0 := hA3.cell 0
          have c1 := hA3.cell 1
          have c2 := hA3.cell 2
          simp only [List.getElem?_toArray, List.getElem?_cons_zero, List.getElem?_cons_succ] at c0 c1 c2
          have hf1 := ho3.frozenAt (k * 3)
          have hf2 := ho3.frozenAt (k * 3 + 1)
          have hf3 := ho3.frozenAt (k * 3 + 2)
          have hg1 := (ho3.cellAt (k * 3) (by omega)).trans hat.1
          have hg2 := (ho3.cellAt (k * 3 + 1) (by omega)).trans hat.2.1
          have hg3 := (ho3.cellAt (k * 3 + 2) (by omega)).trans hat.2.2
          clear hA3 hat hne
          go_wp2_with fail
          go_roundw
          case rel =>
            refine ⟨k + 1, by omega, by go_num, ?_, ?_⟩
            · rw [← HSET.out]
              exact (((ho3.stored (k * 3) _).1.stored (k * 3 + 1) _).1.stored (k * 3 + 2) _).1
            · exact ((hb3.setCell (Nat.le_refl _) _).setCell (Nat.le_refl _) _).setCell (Nat.le_refl _) _
          case measure => simp [RowKit.intOf]; omega
      | false =>
        have hA2 := hA1
        have ho2 := ho1
        have hb2 := hb1
        clear hA1 ho1 hb1
        have p2 := hA2.cell 2
        simp only [List.getElem?_toArray, List.getElem?_cons_zero, List.getElem?_cons_succ] at p2
        go_wp2_with fail
        refine (HT2.out _ hb2).mono ?_
        rintro e W3 ⟨rfl, hbw⟩
        replace hA2 := hA2.keep hbw
        replace ho2 := own_keep ho2 hbw
        replace hb2 := hb2.trans (hbw.mono hb2.size)
        clear hbw p2
        have hl3 := hA2.lt
        cases b3 with
        | true =>
          have f2 := hA2.frozen 2
          have p2 := hA2.cell 2
          have hA3 : At (W3.setCell ⟨wr.heap.size, 2, none⟩ (.string y3)) wr.heap.size 40 #[.int .i64 x1, .string x2, .string y3] := by simpa using hA2.set 2 (.string y3)
          have ho3 := own_grown ho2 (grown_cellR W3 wr.heap.size 2 (.string y3)) (.inl hne)
          have hb3 : Below w.heap.size w (W3.setCell ⟨wr.heap.size, 2, none⟩ (.string y3)) := hb2.setCell (by simp; omega) _
          clear hA2 ho2 hb2
          have c0 := hA3.cell 0
          have c1 := hA3.cell 1
          have c2 := hA3.cell 2
          simp only [List.getElem?_toArray, List.getElem?_cons_zero, List.getElem?_cons_succ] at c0 c1 c2
          have hf1 := ho3.frozenAt (k * 3)
          have hf2 := ho3.frozenAt (k * 3 + 1)
          have hf3 := ho3.frozenAt (k * 3 + 2)
          have hg1 := (ho3.cellAt (k * 3) (by omega)).trans hat.1
          have hg2 := (ho3.cellAt (k * 3 + 1) (by omega)).trans hat.2.1
          have hg3 := (ho3.cellAt (k * 3 + 2) (by omega)).trans hat.2.2
          clear hA3 hat hne
          go_wp2_with fail
          go_roundw
          case rel =>
            refine ⟨k + 1, by omega, by go_num, ?_, ?_⟩
            · rw [← HSET.out]
              exact (((ho3.stored (k * 3) _).1.stored (k * 3 + 1) _).1.stored (k * 3 + 2) _).1
            · exact ((hb3.setCell (Nat.le_refl _) _).setCell (Nat.le_refl _) _).setCell (Nat.le_refl _) _
          case measure => simp [RowKit.intOf]; omega
        | false =>
          have hA3 := hA2
          have ho3 := ho2
          have hb3 := hb2
          clear hA2 ho2 hb2
          have c0 := hA3.cell 0
          have c1 := hA3.cell 1
          have c2 := hA3.cell 2
          simp only [List.getElem?_toArray, List.getElem?_cons_zero, List.getElem?_cons_succ] at c0 c1 c2
          have hf1 := ho3.frozenAt (k * 3)
          have hf2 := ho3.frozenAt (k * 3 + 1)
          have hf3 := ho3.frozenAt (k * 3 + 2)
          have hg1 := (ho3.cellAt (k * 3) (by omega)).trans hat.1
          have hg2 := (ho3.cellAt (k * 3 + 1) (by omega)).trans hat.2.1
          have hg3 := (ho3.cellAt (k * 3 + 2) (by omega)).trans hat.2.2
          clear hA3 hat hne
          go_wp2_with fail
          go_roundw
          case rel =>
            refine ⟨k + 1, by omega, by go_num, ?_, ?_⟩
            · rw [← HSET.out]
              exact (((ho3.stored (k * 3) _).1.stored (k * 3 + 1) _).1.stored (k * 3 + 2) _).1
            · exact ((hb3.setCell (Nat.le_refl _) _).setCell (Nat.le_refl _) _).setCell (Nat.le_refl _) _
          case measure => simp [RowKit.intOf]; omega
    · have hk' : k = xs.length := by omega
      have ho2 := ho
      rw [hk', ← HXL.out, shalf_full] at ho2
      have HO3 : Hid (wr.ownsRow w.heap.size 40 3 (.slice (some ⟨w.heap.size, 0, none⟩) xs.length xs.length) ys.length (scells ys)) := by
        have := ho2
        rw [show (Value.slice (some ⟨w.heap.size, 0, none⟩) ys.length ys.length) = (Value.slice (some ⟨w.heap.size, 0, none⟩) xs.length xs.length) by rw [HXL.out]] at this
        exact this
      have HK := Lib.hid hk'
      clear hcell ho2 ho hk'
      go_wp2
      go_ret
      exact ⟨_, rfl, HO3.out, hb⟩
set_option maxRecDepth 100000 in
set_option maxHeartbeats 1600000 in
theorem imWithFree_c (xs : List St) (v : Value) (free : ByteArray) (hf : free.size ≤ 1048576) (w : World) (hx : RdS w v xs) :
    Calls Try.prog 7 #[v, .string free] w fun e w' => ∃ v', e = .returned (.tuple #[v', .bool (frOk xs free.data.toList)]) ∧ w'.ownsRow w.heap.size 40 3 v' (frS xs free.data.toList).length (scells (frS xs free.data.toList)) ∧ Below w.heap.size w w' := by
  have hB0 : Below w.heap.size w (w.alloc (.cells #[.string free] 9)) := (Below.refl _ _).alloc (Nat.le_refl _) _
  have hA0 : At (w.alloc (.cells #[.string free] 9)) w.heap.size 9 #[.string free] := At.new _ _ _
  have hsv := Lib.hid (imSequenceValid_c xs v _ (hx.below hB0))
  have HX := Lib.hid (fun W (hb : Below w.heap.size w W) => hx.below hb)
  have hown0 : ∀ W : World, W.ownsRow w.heap.size 40 3 (.slice none 0 0) ([] : List St).length (scells []) := fun W => ⟨rfl, .inl ⟨rfl, rfl⟩⟩
  have HFO := Lib.hid (frOk_ar xs free.data.toList)
  have HNO := Lib.hid (fun h => frS_no (xs := xs) (free := free.data.toList) h)
  have HYS := Lib.hid (fun h => frS_yes (xs := xs) (free := free.data.toList) h)
  obtain ⟨Av, cv, rfl, -⟩ := hx.open
  rcases Bool.eq_false_or_eq_true (svalid xs) with h1 | h1
  · have hlen := svalid_len h1
    have HAR := Lib.hid (fun W hW => areFree_c free xs h1 (.slice Av xs.length cv) W hW hf)
    have H1 := Lib.hid h1
    rw [h1, Bool.true_and] at HFO
    have HSZ := Lib.hid (fun h => ar_len (xs := xs) (free := free.data.toList) h)
    have hfl : free.data.toList.length = free.size := size_data free
    have HMP := Lib.hid (fr_map free.data.toList xs)
    clear h1 hx
    generalize hal : arF xs free.data.toList = ar at *
    cases ar with
    | false =>
      have HF := Lib.hid (HNO.out HFO.out)
      clear hal
      go_enter Try.func7, Try.ntmps7
      go_wp2_with fail
      refine hsv.out.mono ?_
      rintro e w1 ⟨rfl, hb1⟩
      rw [H1.out]
      have hB1 := hB0.trans (hb1.mono hB0.size)
      have hx1 := HX.out _ hB1
      have c1 : w1.cell? ⟨w.heap.size, 0, none⟩ = some (.string free) := (hA0.keep hb1).cell 0
      go_wp2_with (go_at_call 17; refine (HAR.out _ hx1).mono ?_; rintro e w2 ⟨rfl, hb2⟩)
      go_ret2
      exact ⟨_, by rw [HFO.out]; rfl, by rw [HF.out]; exact hown0 _, hB1.trans (hb2.mono hB1.size)⟩
    | true =>
      have hsz := HSZ.out rfl
      rw [hfl] at hsz
      have HF := Lib.hid (HYS.out HFO.out)
      clear hal hfl HSZ
      go_enter Try.func7, Try.ntmps7
      go_wp2_with fail
      refine hsv.out.mono ?_
      rintro e w1 ⟨rfl, hb1⟩
      rw [H1.out]
      have hB1 := hB0.trans (hb1.mono hB0.size)
      have hx1 := HX.out _ hB1
      have hA1 := hA0.keep hb1
      have c1 : w1.cell? ⟨w.heap.size, 0, none⟩ = some (.string free) := hA1.cell 0
      clear hb1 hB0 hA0
      go_wp2_with fail
      refine (HAR.out _ hx1).mono ?_
      rintro e w2 ⟨rfl, hb2⟩
      have hB2 := hB1.trans (hb2.mono hB1.size)
      have hs2 := hB2.size
      have hA2 := hA1.keep hb2
      have hx2 := HX.out _ hB2
      clear hb2 hB1 hx1 hA1 c1
      go_wp2_with fail
      refine (renameF_c (frT free.data.toList) (frV free.data.toList) _ xs (.slice Av xs.length cv) w2 (by omega) hx2 (fun a W hW => tellF_c _ a free hsz W (hA2.keep hW))).mono ?_
      rintro e w3 ⟨v3, rfl, ho3, hb3⟩
      rw [HMP.out] at ho3
      have hB3 := hB2.trans (hb3.mono hs2)
      have ho4 := own_more ho3 hs2
      clear hb3 ho3
      go_wp2
      go_ret2
      exact ⟨_, by rw [HFO.out]; rfl, by rw [HF.out]; exact ho4, hB3⟩
  · have HF : Hid (frOk xs free.data.toList = false) := by show _ = _; rw [HFO.out, h1]; rfl
    have HFS := Lib.hid (HNO.out HF.out)
    have H1 := Lib.hid h1
    clear h1
    go_enter Try.func7, Try.ntmps7
    go_wp2_with fail
    refine hsv.out.mono ?_
    rintro e w1 ⟨rfl, hb1⟩
    rw [H1.out]
    go_wp2
    go_ret2
    exact ⟨_, by rw [HF.out]; rfl, by rw [HFS.out]; exact hown0 _, hB0.trans (hb1.mono hB0.size)⟩
end Go.Proofs.Ytnhncbhhlbcieaa
