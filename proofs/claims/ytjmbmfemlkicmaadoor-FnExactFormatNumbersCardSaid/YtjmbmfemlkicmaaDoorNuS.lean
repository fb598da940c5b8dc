import Derived.Test.YtjmbmfemlkicmaaDoorProg
import Derived.Test.YtjmbmfemlkicmaaDoorLib
import Derived.Test.YtjmbmfemlkicmaaDoorNuP
namespace Go.PG
open Go.RowKit Go.PM
def icells (ns : List Int) : List Value := ns.map (Value.int .i64)
theorem icells_length (ns : List Int) : (icells ns).length = ns.length := by simp [icells]
theorem icells_append (a b : List Int) : icells (a ++ b) = icells a ++ icells b := by simp [icells]
def RdI (w : World) (v : Value) (ns : List Int) : Prop := Rd w 1 v ns.length (icells ns)
theorem RdI.below {w w' : World} {v : Value} {ns : List Int} (h : RdI w v ns) (hb : Below w.heap.size w w') : RdI w' v ns := Rd.below h hb
theorem RdI.open {w : World} {v : Value} {ns : List Int} (h : RdI w v ns) : ∃ A cap, v = .slice A ns.length cap ∧ ns.length ≤ 9223372036854775807 ∧ ns.length ≤ cap ∧
    ∀ k (hk : k < ns.length), ∃ b off, A = some ⟨b, off, none⟩ ∧ b < w.heap.size ∧ w.cell? ⟨b, off + k, none⟩ = some (.int .i64 ns[k]) := by
  obtain ⟨A, cap, e, hc, hn, hl, hr⟩ := h
  refine ⟨A, cap, e, hn, hc, fun k hk => ?_⟩
  obtain ⟨b, off, eA, hb, hcell⟩ := hr (by omega)
  exact ⟨b, off, eA, hb, hcell _ _ (by unfold icells; rw [List.getElem?_map, List.getElem?_eq_getElem hk]; rfl)⟩
end Go.PG
namespace Go.Proofs.YtjmbmfemlkicmaaDoor
open Go.RowKit Go.PM Go.PG

set_option maxRecDepth 100000 in
set_option maxHeartbeats 1600000 in
theorem l13DecP_c (u : Nat) (hu : u ≤ 9223372036854775807) (w : World) :
    Calls Tryd.prog 15 #[.int .i64 u] w fun e w' => e = .returned (.string (itoaB u)) ∧ Below w.heap.size w w' := by
  have n1 : ¬ (u : Int) < -9223372036854775807 := by omega
  have n2 : ¬ (u : Int) < 0 := by omega
  have hcv : ∀ (d : Nat), d < 10 → ∀ W b, At W b 5 #[.int .u8 (48 + (d : Int))] → (convert 22 9 (.slice (some ⟨b, 0, none⟩) 1 1)).run Tryd.prog W = .ok (.string ⟨#[UInt8.ofNat (48 + d)]⟩) W := fun d hd W b hW => by
    rw [run_convert_bytes_string _ _ _ _ _ _ _ Tryd.underlying22 Tryd.underlying5 Tryd.underlying9]
    have hl : (loadCells ⟨b, 0, none⟩ 1).run Tryd.prog W = .ok ([48 + (d : Int)].map (Value.int .u8)).toArray W :=
      run_loadCells_list (P := Tryd.prog) W ⟨b, 0, none⟩ [.int .u8 (48 + (d : Int))] (fun j v hj => by
        have hadd : (⟨b, 0, none⟩ : Addr).add j = ⟨b, j, none⟩ := by unfold Addr.add; split <;> simp_all
        rw [hadd, hW.cell]
        simpa using hj)
    rw [run_bytesToString (ns := [48 + (d : Int)]) _ _ _ _ hl]
    have e0 : (48 + (d : Int)).toNat = 48 + d := by omega
    simp [e0]
    rfl
  have hN := Lib.nDigits_le20 u (by omega)
  have HU : Hid (∀ t : ByteArray, t.data.toList = Lib.decDigits u → t = itoaB u) := fun t ht => by
    unfold itoaB; rw [Lib.itoa_nonneg]; exact nba_mk ht
  go_enter Tryd.func15, Tryd.ntmps15
  go_wp2
  go_loopw [0, 3] (fun a o wr => ∃ (k : Nat) (t : ByteArray), k ≤ u ∧ a = .int .i64 k ∧ o = .string t ∧ t.size ≤ 20 ∧ Hid (Lib.decDigits k ++ t.data.toList = Lib.decDigits u) ∧ Below w.heap.size w wr) (fun a _ _ => (intOf a).toNat)
  case atStart => exact ⟨u, ⟨#[]⟩, by omega, rfl, rfl, by decide, by show _ = _; simp, Below.refl _ _⟩
  case round =>
    obtain ⟨k, t, hk, rfl, rfl, hts, ht, hb⟩ := hrel
    have hbs := hb.size
    by_cases h9 : 9 < k
    · have e1 : ((k : Int)).tmod 10 = ((k % 10 : Nat) : Int) := by rw [Int.tmod_eq_emod_of_nonneg (by omega)]; omega
      have e2 : ((k : Int)).tdiv 10 = ((k / 10 : Nat) : Int) := by rw [Int.tdiv_eq_ediv_of_nonneg (by omega)]; omega
      have e3 : ((k : Int)) % 10 = ((k % 10 : Nat) : Int) := by omega
      have e4 : ((k : Int)) / 10 = ((k / 10 : Nat) : Int) := by omega
      have hd : k % 10 < 10 := by omega
      have hcw := hcv (k % 10) hd (wr.alloc (.cells #[.int .u8 (48 + ((k % 10 : Nat) : Int))] 5)) wr.heap.size (At.new _ _ _)
      have hl : t.size + 1 ≤ 20 := by
        have h1 := congrArg List.length ht.out
        rw [List.length_append, Lib.decDigits_length, Lib.decDigits_length] at h1
        have h2 := Lib.nDigits_pos (k / 10)
        rw [Lib.nDigits_big (by omega)] at h1
        have h3 : t.data.toList.length = t.size := by simp
        omega
      have HT : Hid (∀ s : ByteArray, s.data.toList = UInt8.ofNat (48 + k % 10) :: t.data.toList → Lib.decDigits (k / 10) ++ s.data.toList = Lib.decDigits u) := fun s hs => by
        rw [hs, ← ht.out, Lib.decDigits.eq_1 k, dif_neg (by omega)]
        simp
      have hz : (⟨#[UInt8.ofNat (48 + k % 10)]⟩ : ByteArray).size = 1 := rfl
      have HD : Hid ((⟨#[UInt8.ofNat (48 + k % 10)]⟩ : ByteArray).data.toList = [UInt8.ofNat (48 + k % 10)]) := rfl
      have hk9 : (k : Int) > 9 := by omega
      generalize (⟨#[UInt8.ofNat (48 + k % 10)]⟩ : ByteArray) = d at *
      have hkd : k / 10 ≤ u := by omega
      have hkl : k / 10 < k := by omega
      clear hcv ht
      generalize k / 10 = kd at *
      generalize k % 10 = km at *
      go_wp2
      go_roundw
      case rel =>
        refine ⟨kd, _, by omega, rfl, rfl, ?_, ?_, by (repeat' (first | (with_reducible exact Below.refl _ _) | (with_reducible assumption) | (with_reducible refine Below.alloc ?_ ?_ _) | (with_reducible refine Below.drew ?_) | (with_reducible refine Below.setCell ?_ ?_ _) | (with_reducible exact Nat.le_refl _) | omega | ((repeat (first | rewrite [World.size_alloc] | rewrite [World.size_setCell] | rewrite [World.size_drew])); omega) | (simp; omega) | (simp; done)))⟩
        · simp only [ByteArray.size_append]; omega
        · show _ = _
          refine HT.out _ ?_
          rw [ByteArray.data_append, Array.toList_append, HD.out]; rfl
      case measure => simp [intOf]; omega
    · have hcw := hcv k (by omega) (wr.alloc (.cells #[.int .u8 (48 + (k : Int))] 5)) wr.heap.size (At.new _ _ _)
      have e9 : ¬ (k : Int) > 9 := by omega
      have HT : Hid (∀ s : ByteArray, s.data.toList = UInt8.ofNat (48 + k) :: t.data.toList → s = itoaB u) := fun s hs => by
        refine HU.out _ ?_
        rw [hs, ← ht.out, Lib.decDigits.eq_1 k, dif_pos (by omega)]
        simp
      have hz : (⟨#[UInt8.ofNat (48 + k)]⟩ : ByteArray).size = 1 := rfl
      have HD : Hid ((⟨#[UInt8.ofNat (48 + k)]⟩ : ByteArray).data.toList = [UInt8.ofNat (48 + k)]) := rfl
      generalize (⟨#[UInt8.ofNat (48 + k)]⟩ : ByteArray) = d at *
      clear hcv ht
      go_wp2
      go_ret
      refine ⟨?_, by (repeat' (first | (with_reducible exact Below.refl _ _) | (with_reducible assumption) | (with_reducible refine Below.alloc ?_ ?_ _) | (with_reducible refine Below.drew ?_) | (with_reducible refine Below.setCell ?_ ?_ _) | (with_reducible exact Nat.le_refl _) | omega | ((repeat (first | rewrite [World.size_alloc] | rewrite [World.size_setCell] | rewrite [World.size_drew])); omega) | (simp; omega) | (simp; done)))⟩
      have := HT.out (d ++ t) (by rw [ByteArray.data_append, Array.toList_append, HD.out]; rfl)
      rw [this]; rfl
set_option maxRecDepth 100000 in
set_option maxHeartbeats 1600000 in
theorem l13DecA_c (n : Int) (hn : i64ok n) (w : World) :
    Calls Tryd.prog 15 #[.int .i64 n] w fun e w' => e = .returned (.string (itoaB n)) ∧ Below w.heap.size w w' := by
  by_cases h0 : 0 ≤ n
  · obtain ⟨u, rfl⟩ : ∃ u : Nat, n = u := ⟨n.toNat, by omega⟩
    exact l13DecP_c u (by have := hn.2; omega) w
  · by_cases h1 : n < -9223372036854775807
    · have hm : n = -9223372036854775808 := by have := hn.1; omega
      subst hm
      have HM : Hid (itoaB (-9223372036854775808) = ⟨#[45, 57, 50, 50, 51, 51, 55, 50, 48, 51, 54, 56, 53, 52, 55, 55, 53, 56, 48, 56]⟩) := by
        show _ = _
        decide +kernel
      go_enter Tryd.func15, Tryd.ntmps15
      go_wp2
      go_ret
      exact ⟨by rw [HM.out]; rfl, Below.refl _ _⟩
    · obtain ⟨u, rfl⟩ : ∃ u : Nat, n = -(u : Int) := ⟨n.natAbs, by omega⟩
      have hc := fun W => l13DecP_c u (by omega) W
      have hs : (itoaB u).size ≤ 21 := itoaB_size ⟨by omega, by omega⟩
      have HS : Hid (∀ t : ByteArray, t.data.toList = 45 :: (itoaB u).data.toList → t = itoaB (-(u : Int))) := fun t ht => by
        unfold itoaB
        rw [Lib.itoa_neg u (by omega)]
        refine nba_mk ?_
        rw [ht, itoaB_data, Lib.itoa_nonneg]
      have h3 : -(u : Int) < 0 := by omega
      have e1 : decide (-(u : Int) < -9223372036854775807) = false := decide_eq_false h1
      have e2 : decide (-(u : Int) < 0) = true := decide_eq_true h3
      generalize itoaB (u : Int) = s at *
      go_enter Tryd.func15, Tryd.ntmps15
      go_wp2_with fail
      refine (hc _).mono ?_
      rintro e w1 ⟨rfl, hb1⟩
      go_wp2
      go_ret
      exact ⟨by rw [← HS.out (⟨#[45]⟩ ++ s) (by rw [ByteArray.data_append, Array.toList_append]; rfl)]; rfl, hb1⟩
set_option maxRecDepth 100000 in
set_option maxHeartbeats 800000 in
theorem spFormatNumbers_c (xs : List Int) (v : Value) (w : World) (hx : RdI w v xs) (hz : ∀ n ∈ xs, i64ok n) (hn' : xs.length ≤ 1048576) :
    Calls Tryd.prog 7 #[v] w fun e w' => e = .returned (.string (numB xs)) ∧ Below w.heap.size w w' := by
  obtain ⟨A, cap, rfl, hn, hc, hcell⟩ := hx.open
  have hfin : Hid (∀ t : ByteArray, t.data.toList = numL xs → xs ≠ [] → t = numB xs) := fun t ht hne => by rw [numB_some hne]; exact nba_mk ht
  have hfin2 : Hid (xs = [] → numB xs = ⟨#[45]⟩) := numB_none
  go_enter Tryd.func7, Tryd.ntmps7
  go_wp2
  go_loopw [3, 4, 5, 8] (fun o _ _ i wr => ∃ (k : Nat) (t : ByteArray), k ≤ xs.length ∧ i = .int .i64 k ∧ o = .string t ∧ t.size ≤ 22 * k ∧ Hid (t.data.toList = numL (xs.take k)) ∧ Below w.heap.size w wr) (fun _ _ _ i _ => xs.length - (intOf i).toNat)
  case atStart => exact ⟨0, ⟨#[]⟩, by omega, rfl, rfl, by decide, by show _ = _; simp [numL, Lib.join_nil], Below.refl _ _⟩
  case round =>
    obtain ⟨k, t, hk, rfl, rfl, hts, ht, hb⟩ := hrel
    have hbs := hb.size
    by_cases hlt : k < xs.length
    · obtain ⟨b, off, rfl, hbl, hc1⟩ := hcell k hlt
      have hd1 := (hb.cell (p := ⟨b, off + k, none⟩) hbl).trans hc1
      have hs := numL_step xs k hlt
      have hok := hz xs[k] (List.getElem_mem hlt)
      have hsz := itoaB_size hok
      have hdat := itoaB_data xs[k]
      rw [← hdat] at hs
      have hc := fun W => l13DecA_c xs[k] hok W
      clear hc1 hcell hdat hok
      generalize itoaB xs[k] = s at *
      generalize xs[k] = x at *
      have HS := Lib.hid hs
      clear hs
      by_cases h0 : k = 0
      · have hp : ¬ (0 : Int) < (k : Int) := by omega
        have H0 := Lib.hid h0
        clear h0
        go_wp2_with fail
        refine (hc _).mono ?_
        rintro e w1 ⟨rfl, hb1⟩
        go_wp2
        go_roundw
        case rel =>
          refine ⟨k + 1, _, by omega, by go_num, rfl, ?_, ?_, hb.trans (hb1.mono hbs)⟩
          · simp only [ByteArray.size_append]; omega
          show _ = _
          rw [HS.out, if_pos H0.out]
          have h3 := ht.out
          rw [H0.out] at h3
          simp [numL, Lib.join_nil] at h3
          simp [h3]
        case measure => simp [intOf]; omega
      · have hp : (0 : Int) < (k : Int) := by omega
        have H0 := Lib.hid h0
        clear h0
        go_wp2_with fail
        refine (hc _).mono ?_
        rintro e w1 ⟨rfl, hb1⟩
        go_wp2
        go_roundw
        case rel =>
          refine ⟨k + 1, _, by omega, by go_num, rfl, ?_, ?_, hb.trans (hb1.mono hbs)⟩
          · have c2 : (⟨#[32]⟩ : ByteArray).size = 1 := rfl
            simp only [ByteArray.size_append]; omega
          show _ = _
          rw [HS.out, if_neg H0.out, ← ht.out]
          simp
        case measure => simp [intOf]; omega
    · have hk' : k = xs.length := by omega
      have h2 := ht.out
      rw [hk', List.take_of_length_le (Nat.le_refl _)] at h2
      have HT := Lib.hid h2
      clear h2
      by_cases hne : xs = []
      · have he : t = ⟨#[]⟩ := by
          have := HT.out
          rw [hne] at this
          exact nba_mk this
        subst he
        have HN := Lib.hid hne
        clear hne hk'
        go_wp2
        go_ret
        exact ⟨by rw [hfin2.out HN.out]; rfl, hb⟩
      · have hte : t.toList.isEmpty = false := by
          rw [ByteArray.toList_eq, HT.out]
          have := numL_pos hne
          cases hh : numL xs with
          | nil => exact absurd hh this
          | cons a l => rfl
        have HN := Lib.hid hne
        clear hne hk'
        go_wp2
        go_ret
        exact ⟨by rw [← hfin.out t HT.out HN.out]; rfl, hb⟩
end Go.Proofs.YtjmbmfemlkicmaaDoor
