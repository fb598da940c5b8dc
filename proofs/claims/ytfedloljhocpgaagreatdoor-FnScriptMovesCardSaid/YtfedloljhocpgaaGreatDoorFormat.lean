import Derived.Test.YtfedloljhocpgaaGreatDoorIm2
import Derived.Test.YtfedloljhocpgaaGreatDoorSp1
import Derived.Lib.Join
namespace Go.PM
open Go.RowKit
def part (m : Mv) : List UInt8 := m.1.data.toList ++ [61] ++ m.2.data.toList
def fmtL (xs : List Mv) : List UInt8 := Lib.join (xs.map part) [44]
theorem join_snoc (xs : List (List UInt8)) (x sep : List UInt8) : Lib.join (xs ++ [x]) sep = if xs = [] then x else Lib.join xs sep ++ sep ++ x := by
  cases xs with
  | nil => simp [Lib.join_one]
  | cons y r => simp [Lib.join_cons, Lib.joinTail]
theorem fmtL_pos (xs : List Mv) (h : xs ≠ []) : fmtL xs ≠ [] := by
  cases xs with
  | nil => exact absurd rfl h
  | cons x r =>
    unfold fmtL
    rw [List.map_cons, Lib.join_cons]
    simp [part]
def fmtB (xs : List Mv) : ByteArray := if mvalid xs then (if xs = [] then ⟨#[45]⟩ else ⟨(fmtL xs).toArray⟩) else ⟨#[]⟩
theorem fmtB_no {xs : List Mv} (h : mvalid xs = false) : fmtB xs = ⟨#[]⟩ := by simp [fmtB, h]
theorem fmtB_none {xs : List Mv} (h : mvalid xs = true) (h2 : xs = []) : fmtB xs = ⟨#[45]⟩ := by subst h2; simp [fmtB, h]
theorem fmtB_some {xs : List Mv} (h : mvalid xs = true) (h2 : xs ≠ []) : fmtB xs = ⟨(fmtL xs).toArray⟩ := by simp [fmtB, h, h2]
theorem ba_mk {t : ByteArray} {l : List UInt8} (h : t.data.toList = l) : t = ⟨l.toArray⟩ := by
  subst h; simp
def partB (m : Mv) : ByteArray := m.1 ++ ⟨#[61]⟩ ++ m.2
theorem partB_data (m : Mv) : (partB m).data.toList = part m := by simp [partB, part]
def phalf (xs : List Mv) (k : Nat) : List Value := (xs.take k).map (fun m => Value.string (partB m)) ++ List.replicate (xs.length - k) (Value.string ⟨#[]⟩)
theorem phalf_at (xs : List Mv) (k : Nat) (hk : k < xs.length) : (phalf xs k)[k]? = some (Value.string ⟨#[]⟩) := by
  have hl : ((xs.take k).map (fun m => Value.string (partB m))).length = k := by simp; omega
  obtain ⟨d, hd⟩ : ∃ d, xs.length - k = d + 1 := ⟨xs.length - k - 1, by omega⟩
  unfold phalf
  rw [List.getElem?_append_right (by omega), hl, Nat.sub_self, hd, List.replicate_succ]; rfl
theorem phalf_set (xs : List Mv) (k : Nat) (hk : k < xs.length) : (phalf xs k).set k (.string (partB xs[k])) = phalf xs (k+1) := by
  have hl : ((xs.take k).map (fun m => Value.string (partB m))).length = k := by simp; omega
  obtain ⟨d, hd⟩ : ∃ d, xs.length - k = d + 1 := ⟨xs.length - k - 1, by omega⟩
  unfold phalf
  rw [List.set_append_right _ _ (by omega), hl, hd, List.replicate_succ, show xs.length - (k+1) = d by omega, take_snoc xs k hk, Nat.sub_self, List.map_append]
  simp only [List.set_cons_zero, List.map_cons, List.map_nil, List.append_assoc, List.cons_append, List.nil_append]
theorem phalf_zero (xs : List Mv) : phalf xs 0 = List.replicate xs.length (Value.string ⟨#[]⟩) := by simp [phalf]
theorem phalf_full (xs : List Mv) : phalf xs xs.length = xs.map (fun m => Value.string (partB m)) := by simp [phalf]
theorem fmtL_len (xs : List Mv) : (fmtL xs).length ≤ 2 * msize xs := by
  induction xs with
  | nil => simp [fmtL, Lib.join_nil]
  | cons x r ih =>
    unfold fmtL at ih ⊢
    rw [List.map_cons, Lib.join_cons, msize]
    have h1 : (part x).length = x.1.size + 1 + x.2.size := by simp [part]; omega
    rw [List.length_append, h1]
    cases r with
    | nil => simp [Lib.joinTail, msize]; omega
    | cons y r =>
      have h2 : (Lib.joinTail [44] (List.map part (y :: r))).length = 1 + (Lib.join (List.map part (y :: r)) [44]).length := by
        rw [List.map_cons, Lib.join_cons]; simp [Lib.joinTail]; omega
      rw [h2]; omega
end Go.PM
namespace Go.Proofs.YtfedloljhocpgaaGreatDoor
open Go.RowKit Go.PM

theorem infoStr : (Tryz.prog.info? 9).map (fun i => (i.zero, i.size, i.bytes)) = some (some (.string ⟨#[]⟩), 1, 16) := by kernel_rfl

set_option maxRecDepth 100000 in
set_option maxHeartbeats 800000 in
theorem imFormatMoves_c (xs : List Mv) (v : Value) (w : World) (hx : RdM w v xs) (hms : msize xs ≤ 1048576) :
    Calls Tryz.prog 15 #[v] w fun e w' => e = .returned (.string (fmtB xs)) ∧ Below w.heap.size w w' := by
  have hn' : xs.length ≤ 1048576 := Nat.le_trans (msize_len xs) hms
  obtain ⟨A, cap, rfl, hn, hc, hcell⟩ := hx.open
  rcases Bool.eq_false_or_eq_true (mvalid xs) with h1 | h1
  · by_cases hne : xs = []
    · have hfin : Hid (fmtB xs = ⟨#[45]⟩) := fmtB_none h1 hne
      have hl0 : (xs.length : Int) = 0 := by rw [hne]; rfl
      have HL := Lib.hid hl0
      have hl : ((xs.length : Int) == 0) = true := by simp [hne]
      clear hne hl0
      go_enter Tryz.func15, Tryz.ntmps15
      go_wp2_with fail
      refine (imMovesValid_c xs _ _ hx).mono ?_
      rintro e w1 ⟨rfl, hb1⟩
      go_wp2
      go_ret
      exact ⟨by rw [hfin.out]; rfl, hb1⟩
    · have hMV : MV xs := by simpa [mvalid] using h1
      have hk9 := MV_len hMV
      have hsz : Hid (∀ k (hk : k < xs.length), xs[k].1.size ≤ 1 ∧ xs[k].2.size ≤ 1) := fun k hk => by
        have h := hMV.1 _ (List.getElem_mem hk)
        unfold mok at h; rw [Bool.and_eq_true] at h
        have h2 := isP_size h.1
        have h3 := isS_size h.2
        omega
      have hfin : Hid (fmtB xs = ⟨(fmtL xs).toArray⟩) := fmtB_some h1 hne
      have hpos : 0 < xs.length := List.length_pos_iff.2 hne
      have hl : ((xs.length : Int) == 0) = false := by simp; omega
      clear hne
      obtain ⟨i0, hi0, hz0, hz1, hz2⟩ := info_parts infoStr
      have hmk := fun W : World => run_make (P := Tryz.prog) W 31 9 i0 _ Tryz.underlying31 hi0 hz0 .i64 .i64 xs.length xs.length (by omega) (Int.le_refl _) (by rw [hz2]; omega) (by omega)
      simp only [Int.toNat_natCast, hz1] at hmk
      go_enter Tryz.func15, Tryz.ntmps15
      go_wp2_with fail
      refine (imMovesValid_c xs _ _ hx).mono ?_
      rintro e w1 ⟨rfl, hb1⟩
      have hs1 := hb1.size
      have hO := own_made w1 w.heap.size 9 #[Value.string ⟨#[]⟩] 1 xs.length rfl (by omega) (by omega) hs1
      have hB : Below w.heap.size w (w1.alloc (Obj.cells (madeCells #[Value.string ⟨#[]⟩] (xs.length * 1)) 9)) := hb1.alloc hs1 _
      go_wp2
      simp only [Nat.mul_one] at hB hO
      generalize (w1.alloc (Obj.cells (madeCells #[Value.string ⟨#[]⟩] xs.length) 9)) = W1 at *
      go_loopw [4, 5, 17] (fun _ _ i wr => ∃ (k : Nat), k ≤ xs.length ∧ i = .int .i64 k ∧ wr.ownsRow w.heap.size 9 1 (.slice (some ⟨w1.heap.size, 0, none⟩) xs.length xs.length) xs.length (phalf xs k) ∧ Below w.heap.size w wr) (fun _ _ i _ => xs.length - (intOf i).toNat)
      case atStart => exact ⟨0, by omega, rfl, by rw [phalf_zero]; simpa using hO, hB⟩
      case round =>
        obtain ⟨k, hk, rfl, ho, hb⟩ := hrel
        have hbs := hb.size
        by_cases hlt : k < xs.length
        · obtain ⟨b, off, rfl, hbl, hc1, hc2⟩ := hcell k hlt
          have hd1 := (hb.cell (p := ⟨b, off + k * 2, none⟩) hbl).trans hc1
          have hd2 := (hb.cell (p := ⟨b, off + k * 2 + 1, none⟩) hbl).trans hc2
          have hsz1 := (hsz.out k hlt).1
          have hsz2 := (hsz.out k hlt).2
          have hps := phalf_set xs k hlt
          unfold partB at hps
          clear hc1 hc2 hcell
          generalize xs[k].1 = x1 at *
          generalize xs[k].2 = x2 at *
          have HPS := Lib.hid hps
          clear hps
          have hol := (own_lt ho).1
          have hf1 := ho.frozenAt k
          have hg1 := (ho.cellAt k (by omega)).trans (phalf_at xs k hlt)
          go_wp2
          go_roundw
          case rel =>
            refine ⟨k + 1, by omega, by go_num, ?_, ?_⟩
            · rw [← HPS.out]
              exact own_keep (ho.stored k _).1 ((Below.refl _ _).alloc (Nat.le_refl _) _)
            · (repeat' (first | (with_reducible exact Below.refl _ _) | (with_reducible assumption) | (with_reducible refine Below.alloc ?_ ?_ _) | (with_reducible refine Below.drew ?_) | (with_reducible refine Below.setCell ?_ ?_ _) | (with_reducible exact Nat.le_refl _) | omega | ((repeat (first | rewrite [World.size_alloc] | rewrite [World.size_setCell] | rewrite [World.size_drew])); omega) | (simp; omega) | (simp; done)))
          case measure => simp [intOf]; omega
        · have hk' : k = xs.length := by omega
          have ho2 := ho
          rw [hk', phalf_full] at ho2
          have hcl : ∀ (j : Nat) x, (xs.map partB)[j]? = some x → wr.cell? ⟨w1.heap.size, 0 + j, none⟩ = some (.string x) := fun j x hj => by
            have hjl : j < xs.length := by
              have := (List.getElem?_eq_some_iff.1 hj).1; simpa using this
            rw [Nat.zero_add, ho2.cellAt j (by omega)]
            rw [List.getElem?_map] at hj ⊢
            cases hxj : xs[j]? with
            | none => rw [hxj] at hj; cases hj
            | some m => rw [hxj] at hj; cases hj; rfl
          have hjoin : Lib.join ((xs.map partB).map (·.data.toList)) (⟨#[44]⟩ : ByteArray).data.toList = fmtL xs := by
            unfold fmtL; rw [List.map_map]
            have : ((fun x : ByteArray => x.data.toList) ∘ partB) = Go.PM.part := funext partB_data
            rw [this]
          have hfl := fmtL_len xs
          have hJ := Tryz.strings_Join w1.heap.size 0 xs.length (xs.map partB) ⟨#[44]⟩ wr hcl (own_lt ho).1 (by simp; omega) (by simp) (by rw [hjoin]; omega)
          rw [hjoin, List.length_map, ← hfin.out] at hJ
          have HJ := Lib.hid hJ
          clear hJ hjoin hcl hfl hk' hcell
          go_wp2_with fail
          refine HJ.out.mono ?_
          rintro e w2 ⟨rfl, hb2⟩
          go_wp2
          go_ret
          exact ⟨rfl, hb.trans (hb2.mono hbs)⟩
  · have h2 : Hid (fmtB xs = ⟨#[]⟩) := fmtB_no h1
    go_enter Tryz.func15, Tryz.ntmps15
    go_wp2_with fail
    refine (imMovesValid_c xs _ _ hx).mono ?_
    rintro e w1 ⟨rfl, hb1⟩
    go_wp2
    go_ret
    exact ⟨by rw [h2.out]; rfl, hb1⟩
end Go.Proofs.YtfedloljhocpgaaGreatDoor

