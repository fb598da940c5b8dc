import Derived.Test.YtnhncbhhlbcieaaGreatIm3
import Derived.Test.YtnhncbhhlbcieaaGreatSpS2
import Derived.Test.YtnhncbhhlbcieaaGreatNamesIn
namespace Go.PM
open Go.RowKit Go.Lib
def wrB (x : St) : ByteArray := if x.1 = 1 then x.2.1 ++ x.2.2 else x.2.1
theorem wrB_move (k : Int) (a b : ByteArray) (h : ¬ k = 1) : wrB (k, a, b) = a := if_neg h
theorem wrB_swap (a b : ByteArray) : wrB (1, a, b) = a ++ b := if_pos rfl
def wrL (xs : List St) : List UInt8 := xs.flatMap fun x => (wrB x).data.toList
def wrT (xs : List St) : ByteArray := ⟨(wrL xs).toArray⟩
theorem wrT_step (xs : List St) (k : Nat) (hk : k < xs.length) : wrT (xs.take k) ++ wrB xs[k] = wrT (xs.take (k + 1)) := by
  apply ByteArray.ext
  rw [ByteArray.data_append, wrT, wrT, take_snoc xs k hk]
  unfold wrL
  rw [List.flatMap_append]
  simp
theorem wrB_size {x : St} (h : stOk x = true) : (wrB x).size ≤ 2 := by
  obtain ⟨k, a, b⟩ := x
  rcases stOk_kind h with rfl | rfl
  · rw [wrB_move 0 a b (by decide)]
    have := isC_size (stOk_move h).1
    omega
  · rw [wrB_swap, ByteArray.size_append]
    have h1 := isC_size (stOk_swap h).1
    have h2 := isC_size (stOk_swap h).2
    omega
theorem wrT_size {xs : List St} (h : svalid xs = true) (k : Nat) : (wrT (xs.take k)).size ≤ 2 * k := by
  induction k with
  | zero => exact Nat.le_refl _
  | succ k ih =>
    by_cases hk : k < xs.length
    · rw [← wrT_step xs k hk, ByteArray.size_append]
      have := wrB_size (svalid_at h k hk)
      omega
    · rw [List.take_of_length_le (by omega)] at ih ⊢
      omega
def tcH (xs : List St) (p : Nat) : Bool := inTx cellsL (wrL xs) p
def tcB (xs : List St) : ByteArray := okS (svalid xs) (pickB cellsL (tcH xs) 11)
/-- the spec's test of one step -/
def tq (p : Nat) : ByteArray := ⟨#[cellsL.getD p 0]⟩
def tcX (p : Nat) (x : St) : Bool := decide (x.2.1 = tq p) || (decide (x.1 = 1) && decide (x.2.2 = tq p))
def tcI (xs : List St) (p k : Nat) : Bool := (xs.take k).any (tcX p)
theorem tcI_zero (xs : List St) (p : Nat) : tcI xs p 0 = false := by simp [tcI]
theorem tcI_succ (xs : List St) (p k : Nat) (hk : k < xs.length) : tcI xs p (k + 1) = (tcI xs p k || tcX p xs[k]) := by
  unfold tcI; rw [take_snoc xs k hk, List.any_append]; simp
theorem mem_one {a : ByteArray} (h : a.size = 1) (p : Nat) : cellsL.getD p 0 ∈ a.data.toList ↔ a = tq p := by
  obtain ⟨c, rfl⟩ := one_of_size h
  constructor
  · intro h'
    simp at h'
    rw [tq, ← h']; simp
  · intro h'
    rw [h']; simp [tq]
theorem tcI_full {xs : List St} (h : svalid xs = true) (p : Nat) : tcI xs p xs.length = tcH xs p := by
  unfold tcI tcH inTx
  rw [List.take_length, Bool.eq_iff_iff, List.any_eq_true, decide_eq_true_eq, wrL, List.mem_flatMap]
  have key : ∀ x ∈ xs, tcX p x = true ↔ cellsL.getD p 0 ∈ (wrB x).data.toList := fun x hx => by
    obtain ⟨k, hk, rfl⟩ := List.getElem_of_mem hx
    have hv := svalid_at h k hk
    generalize xs[k] = y at *
    obtain ⟨k, a, b⟩ := y
    rcases stOk_kind hv with rfl | rfl
    · rw [wrB_move 0 a b (by decide), mem_one (isC_size (stOk_move hv).1)]
      simp [tcX]
    · rw [wrB_swap]
      have h1 := mem_one (isC_size (stOk_swap hv).1) p
      have h2 := mem_one (isC_size (stOk_swap hv).2) p
      simp only [ByteArray.data_append, Array.toList_append, List.mem_append, h1, h2]
      simp [tcX]
  constructor
  · rintro ⟨x, hx, e⟩; exact ⟨x, hx, (key x hx).1 e⟩
  · rintro ⟨x, hx, e⟩; exact ⟨x, hx, (key x hx).2 e⟩
end Go.PM
namespace Go.Proofs.YtnhncbhhlbcieaaGreat
open Go.RowKit Go.PM

theorem writes_c (k : Int) (a b : ByteArray) (ha : a.size ≤ 100) (hb : b.size ≤ 100) (w : World) :
    Calls Tryz.prog 44 #[.agg #[.int .i64 k, .string a, .string b]] w fun e w' => e = .returned (.string (wrB (k, a, b))) ∧ Below w.heap.size w w' := by
  by_cases h : k = 1
  · subst h
    have HW := Lib.hid (wrB_swap a b)
    go_enter Tryz.func44, Tryz.ntmps44
    go_wp2
    go_ret
    exact ⟨by rw [HW.out]; rfl, by (repeat' (first | (with_reducible exact Below.refl _ _) | (with_reducible assumption) | (with_reducible refine Below.alloc ?_ ?_ _) | (with_reducible refine Below.drew ?_) | (with_reducible refine Below.setCell ?_ ?_ _) | (with_reducible exact Nat.le_refl _) | omega | ((repeat (first | rewrite [World.size_alloc] | rewrite [World.size_setCell] | rewrite [World.size_drew])); omega) | (simp; omega) | (simp; done)))⟩
  · have HW := Lib.hid (wrB_move k a b h)
    have t1 : (k == 1) = false := by simpa using h
    clear h
    go_enter Tryz.func44, Tryz.ntmps44
    go_wp2
    go_ret
    exact ⟨by rw [HW.out]; rfl, by (repeat' (first | (with_reducible exact Below.refl _ _) | (with_reducible assumption) | (with_reducible refine Below.alloc ?_ ?_ _) | (with_reducible refine Below.drew ?_) | (with_reducible refine Below.setCell ?_ ?_ _) | (with_reducible exact Nat.le_refl _) | omega | ((repeat (first | rewrite [World.size_alloc] | rewrite [World.size_setCell] | rewrite [World.size_drew])); omega) | (simp; omega) | (simp; done)))⟩
set_option maxRecDepth 100000 in
set_option maxHeartbeats 1000000 in
theorem imTouchedBy_c (xs : List St) (v : Value) (w : World) (hx : RdS w v xs) :
    Calls Tryz.prog 16 #[v] w fun e w' => e = .returned (.tuple #[.string (tcB xs), .bool (svalid xs)]) ∧ Below w.heap.size w w' := by
  have hsv := Lib.hid (imSequenceValid_c xs v w hx)
  rcases Bool.eq_false_or_eq_true (svalid xs) with h1 | h1
  · have HT : Hid (tcB xs = pickB cellsL (tcH xs) 11) := by show _ = _; rw [tcB, h1]; rfl
    have HSZ := Lib.hid (fun k => wrT_size h1 k)
    have HST := Lib.hid (fun k hk => wrT_step xs k hk)
    have HOK := Lib.hid (fun k hk => svalid_at h1 k hk)
    have hlen := svalid_len h1
    have HPL : ∀ W, Calls Tryz.prog 42 #[.string ⟨#[97, 98, 99, 100, 101, 102, 65, 66, 67, 116, 117]⟩, .string (wrT xs)] W fun e w' => e = .returned (.string (tcB xs)) ∧ W = w' := fun W => by
      have := namesIn_c cellsB (wrT xs) (by decide) W
      rw [HT.out]
      have e : inTx cellsB.data.toList (wrT xs).data.toList = tcH xs := by funext p; simp [inTx, tcH, wrT, cellsB, cellsL]
      rw [e] at this
      exact this
    have HPL2 := Lib.hid HPL
    have H1 := Lib.hid h1
    clear h1 HPL
    go_enter Tryz.func16, Tryz.ntmps16
    go_wp2_with fail
    refine hsv.out.mono ?_
    rintro e w1 ⟨rfl, hb1⟩
    rw [H1.out]
    have hs1 := hb1.size
    have hx1 := hx.below hb1
    obtain ⟨A, cap, rfl, hn, hc, hcell⟩ := hx1.open
    clear hx1
    go_wp2
    go_loopw [4, 6, 12] (fun o _ i wr => ∃ (k : Nat), k ≤ xs.length ∧ i = .int .i64 k ∧ o = .string (wrT (xs.take k)) ∧ Below w1.heap.size w1 wr) (fun _ _ i _ => xs.length - (intOf i).toNat)
    case atStart => exact ⟨0, by omega, rfl, rfl, Below.refl _ _⟩
    case round =>
      obtain ⟨k, hk, rfl, rfl, hb⟩ := hrel
      have hbs := hb.size
      by_cases hlt : k < xs.length
      · obtain ⟨b, off, rfl, hbl, hc1, hc2, hc3⟩ := hcell k hlt
        have hd1 := (hb.cell (p := ⟨b, off + k * 3, none⟩) hbl).trans hc1
        have hd2 := (hb.cell (p := ⟨b, off + k * 3 + 1, none⟩) hbl).trans hc2
        have hd3 := (hb.cell (p := ⟨b, off + k * 3 + 2, none⟩) hbl).trans hc3
        clear hc1 hc2 hc3 hcell
        have hsz := HSZ.out k
        have hok : stOk (xs[k].1, xs[k].2.1, xs[k].2.2) = true := HOK.out k hlt
        have hst : wrT (xs.take k) ++ wrB (xs[k].1, xs[k].2.1, xs[k].2.2) = wrT (xs.take (k + 1)) := HST.out k hlt
        generalize xs[k].1 = x1 at *
        generalize xs[k].2.1 = x2 at *
        generalize xs[k].2.2 = x3 at *
        have hwz := wrB_size hok
        have hz2 : x2.size ≤ 100 ∧ x3.size ≤ 100 := by
          rcases stOk_kind hok with rfl | rfl
          · have h2 := isC_size (stOk_move hok).1
            have h3 := okC_size (stOk_move hok).2
            omega
          · have h2 := isC_size (stOk_swap hok).1
            have h3 := isC_size (stOk_swap hok).2
            omega
        have hw := fun W => writes_c x1 x2 x3 hz2.1 hz2.2 W
        have HST2 := Lib.hid hst
        clear hst hok hz2
        generalize wrB (x1, x2, x3) = q at *
        generalize wrT (xs.take k) = tk at *
        go_wp2_with fail
        refine (hw _).mono ?_
        rintro e w2 ⟨rfl, hb2⟩
        have hb3 : Below w1.heap.size w1 w2 := (hb.alloc hbs _).trans (hb2.mono (by simp; omega))
        go_wp2
        go_roundw
        case rel => exact ⟨k + 1, by omega, by go_num, by rw [← HST2.out], hb3⟩
        case measure => simp [intOf]; omega
      · have hk' : k = xs.length := by omega
        have HE : Hid (wrT (xs.take k) = wrT xs) := by show _ = _; rw [hk', List.take_length]
        rw [HE.out]
        clear hcell
        go_wp2_with (go_at_call 42; refine (HPL2.out _).mono ?_; rintro e w' ⟨rfl, rfl⟩)
        go_ret2
        exact ⟨by rw [H1.out]; rfl, hb1.trans (hb.mono hs1)⟩
  · have HT : Hid (tcB xs = ⟨#[]⟩) := by show _ = _; rw [tcB, h1]; rfl
    have H1 := Lib.hid h1
    clear h1
    go_enter Tryz.func16, Tryz.ntmps16
    go_wp2_with fail
    refine hsv.out.mono ?_
    rintro e w1 ⟨rfl, hb1⟩
    rw [H1.out]
    go_wp2
    go_ret2
    exact ⟨by rw [H1.out, HT.out]; rfl, hb1⟩
end Go.Proofs.YtnhncbhhlbcieaaGreat
