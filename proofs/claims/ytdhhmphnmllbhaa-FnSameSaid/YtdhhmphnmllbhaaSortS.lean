import Derived.Test.YtdhhmphnmllbhaaApp
import Derived.Test.YtdhhmphnmllbhaaReaders
import Derived.BigQuiet
namespace Go.PM
open Go.RowKit
def atP (p : Nat) (m : Mv) : Bool := decide (m.1 = nm p)
def sortO (xs : List Mv) (k : Nat) : List Mv := (List.range k).flatMap fun p => xs.filter (atP p)
def sortI (xs : List Mv) (k j : Nat) : List Mv := sortO xs k ++ (xs.take j).filter (atP k)
theorem filt_snoc (l : List Mv) (m : Mv) (f : Mv → Bool) : (l ++ [m]).filter f = if f m then l.filter f ++ [m] else l.filter f := by
  rw [List.filter_append]
  by_cases h : f m <;> simp [h]
theorem sortI_step (xs : List Mv) (k j : Nat) (hj : j < xs.length) : sortI xs k (j + 1) = if xs[j].1 = nm k then sortI xs k j ++ [xs[j]] else sortI xs k j := by
  unfold sortI
  rw [take_snoc xs j hj, filt_snoc]
  by_cases h : xs[j].1 = nm k
  · rw [if_pos h, if_pos (by rw [atP, decide_eq_true h]), List.append_assoc]
  · rw [if_neg h, if_neg (by rw [atP, decide_eq_false h]; decide)]
theorem sortI_zero (xs : List Mv) (k : Nat) : sortI xs k 0 = sortO xs k := by simp [sortI]
theorem sortI_full (xs : List Mv) (k : Nat) : sortI xs k xs.length = sortO xs (k + 1) := by
  rw [sortI, List.take_length, sortO, sortO, List.range_succ, List.flatMap_append]
  simp
theorem sortO_le (xs : List Mv) (k : Nat) : (sortO xs k).length ≤ k * xs.length := by
  induction k with
  | zero => simp [sortO]
  | succ k ih =>
    rw [← sortI_full, sortI, List.length_append, List.take_length, Nat.succ_mul]
    have := List.length_filter_le (atP k) xs
    omega
theorem sortI_le (xs : List Mv) (k j : Nat) : (sortI xs k j).length ≤ k * xs.length + xs.length := by
  rw [sortI, List.length_append]
  have h1 := sortO_le xs k
  have h2 := List.length_filter_le (atP k) (xs.take j)
  rw [List.length_take] at h2
  omega
def sortM (xs : List Mv) : List Mv := if mvalid xs then sortO xs 9 else []
end Go.PM
namespace Go.Proofs.Ytdhhmphnmllbhaa
open Go.RowKit Go.PM

set_option maxRecDepth 100000 in
set_option maxHeartbeats 2000000 in
theorem spSortMoves_c (xs : List Mv) (v : Value) (w : World) (hx : RdM w v xs) (hz : ∀ m ∈ xs, m.1.size ≤ 9223372036854775807 ∧ m.2.size ≤ 9223372036854775807) (hn' : xs.length ≤ 1048576) :
    Calls Try.prog 16 #[v] w fun e w' => ∃ v', e = .returned (.tuple #[v', .bool (mvalid xs)]) ∧ w'.ownsRow w.heap.size 37 2 v' (sortM xs).length (mcells (sortM xs)) ∧ Below w.heap.size w w' := by
  have HN : Hid (∀ q, q < 9 → (ByteArray.mk #[97, 98, 99, 100, 101, 102, 65, 66, 67]).extract q (q+1) = nm q) := by
    show ∀ q, _
    intro q hq
    match q, hq with
    | 0, _ | 1, _ | 2, _ | 3, _ | 4, _ | 5, _ | 6, _ | 7, _ | 8, _ => decide +kernel
  have hE := World.ownsRow_lit (e := 37) (base := w.heap.size) (size := 2) w #[] 0 (Nat.le_refl _) (Nat.zero_le _) rfl
  obtain ⟨A, cap, rfl, hn, hc, hcell⟩ := hx.open
  have hx0 : RdM (w.alloc (.cells #[] 37)) (.slice A xs.length cap) xs := hx.below ((Below.refl _ _).alloc (Nat.le_refl _) _)
  by_cases h1 : MV xs
  · have HM := Lib.hid (show mvalid xs = true by simpa [mvalid] using h1)
    have hlen := MV_len h1
    have HSM := Lib.hid (show sortM xs = sortO xs 9 from if_pos (by simpa [mvalid] using h1))
    clear h1
    go_enter Try.func16, Try.ntmps16
    go_wp2_with fail
    refine (spMovesValid_c xs _ _ hx0 hz hn').mono ?_
    rintro e w1 ⟨rfl, hb1⟩
    rw [HM.out]
    have hs1 := hb1.size
    have hE1 := own_keep hE hb1
    have hbw : Below w.heap.size w w1 := ((Below.refl _ _).alloc (Nat.le_refl _) _).trans (hb1.mono (by simp [World.size_alloc]))
    have hsw := hbw.size
    clear hx0 hE
    go_wp2
    go_loopw [4, 13] (fun o i wr => ∃ (k : Nat), k ≤ 9 ∧ i = .int .i64 k ∧ wr.ownsRow w.heap.size 37 2 o (sortO xs k).length (mcells (sortO xs k)) ∧ Below w.heap.size w wr) (fun _ i _ => 9 - (intOf i).toNat)
    case atStart => exact ⟨0, by omega, rfl, hE1, hbw⟩
    case round =>
      obtain ⟨k, hk, rfl, ho, hb⟩ := hrel
      have hbs := hb.size
      by_cases hlt : k < 9
      · have hex := HN.out k hlt
        have HST := Lib.hid (fun j hj => sortI_step xs k j hj)
        have HZ := Lib.hid (sortI_zero xs k)
        have HFL := Lib.hid (sortI_full xs k)
        have hle : ∀ j, (sortI xs k j).length ≤ 100 := fun j => by
          have e1 := sortI_le xs k j
          have e2 : k * xs.length ≤ 9 * 9 := Nat.mul_le_mul hk hlen
          omega
        have HLE := Lib.hid hle
        clear hle
        go_wp2
        have e9 : decide ((k : Int) < 9) = true := decide_eq_true (by omega)
        rw [e9]
        clear e9
        go_loopw [4, 7, 18] (fun o _ i wr => ∃ (j : Nat), j ≤ xs.length ∧ i = .int .i64 j ∧ wr.ownsRow w.heap.size 37 2 o (sortI xs k j).length (mcells (sortI xs k j)) ∧ Below w.heap.size w wr) (fun _ _ i _ => xs.length - (intOf i).toNat)
        case atStart => exact ⟨0, by omega, rfl, by rw [HZ.out]; exact ho, hb⟩
        case round =>
          clear ho hb hbs
          obtain ⟨j, hj, rfl, ho, hb⟩ := hrel
          have hbs := hb.size
          by_cases hlt2 : j < xs.length
          · obtain ⟨b, off, rfl, hbl, hc1, hc2⟩ := hcell j hlt2
            have hd1 := (hb.cell (p := ⟨b, off + j * 2, none⟩) hbl).trans hc1
            have hd2 := (hb.cell (p := ⟨b, off + j * 2 + 1, none⟩) hbl).trans hc2
            clear hc1 hc2 hcell
            have hst := HST.out j hlt2
            have hle := HLE.out j
            rw [show xs[j] = (xs[j].1, xs[j].2) from rfl] at hst
            generalize xs[j].1 = x1 at *
            generalize xs[j].2 = x2 at *
            have HS := Lib.hid hst
            clear hst
            have hxa : ∀ x : Ext (wr.heap.size + 1) (wr.alloc (.cells #[.string x1, .string x2] 37)), x.val.cell? ⟨wr.heap.size, 0, none⟩ = some (.string x1) := fun x =>
              (x.property.cell (p := ⟨wr.heap.size, 0, none⟩) (by simp)).trans ((At.new wr 37 #[.string x1, .string x2]).cell 0)
            have hxb : ∀ x : Ext (wr.heap.size + 1) (wr.alloc (.cells #[.string x1, .string x2] 37)), x.val.cell? ⟨wr.heap.size, 1, none⟩ = some (.string x2) := fun x =>
              (x.property.cell (p := ⟨wr.heap.size, 1, none⟩) (by simp)).trans ((At.new wr 37 #[.string x1, .string x2]).cell 1)
            have hoA := own_keep ho ((Below.refl wr.heap.size wr).alloc (Nat.le_refl _) (.cells #[.string x1, .string x2] 37))
            rcases Bool.eq_false_or_eq_true (x1.toList == (nm k).toList) with hd | hd
            · have HD : Hid (x1 = nm k) := by rw [beq_str, decide_eq_true_eq] at hd; exact hd
              go_wp2
              refine wp_region_ext (wr.heap.size + 1) (by kernel_rfl) (by kernel_rfl) ?_
              repeat (go_big_quiet_step (fail))
              refine wpQuiet_nil ?_
              intro w2 hw'
              obtain ⟨xw, hxw⟩ := hw'
              have hb2 := xw.property
              have g1 := hxa xw
              have g2 := hxb xw
              rw [← hxw] at hb2 g1 g2
              clear hxw xw hxa hxb hd1 hd2
              have hb3 : Below w.heap.size w w2 := (hb.alloc hbs _).trans (hb2.mono (by omega))
              have hs3 := hb3.size
              have hs2 := hb2.size
              have hoB := own_keep hoA (by rw [World.size_alloc]; exact hb2)
              have hnw := two_new w2 (.string x1) (.string x2) 37
              go_wp2_with (at_builtin; refine app_mv rfl (.tmp 29) (.tmp 31) rfl w.heap.size u4 (sortI xs k j) (x1, x2) ⟨w2.heap.size, 0, none⟩ 1 (by rfl) (by rfl) ?hown ?hnew ?hlen ?hbase ?_; rotate_left 4; intro v' w3 hown3 hgrow3)
              case hown => exact own_keep hoB ((Below.refl _ _).alloc (Nat.le_refl _) _)
              try case hnew => exact hnw
              case hlen => omega
              case hbase => simp; omega
              have hb4 := below_grown hgrow3 (B := w.heap.size) (by simp; omega) (own_block_ge ho)
              go_roundw
              case rel =>
                refine ⟨j + 1, by omega, by go_num, ?_, ?_⟩
                · rw [HS.out, if_pos HD.out]; exact hown3
                · exact (hb3.alloc hs3 _).trans hb4
              case measure => simp [intOf]; omega
            · have HD : Hid (x1 ≠ nm k) := by rw [beq_str, decide_eq_false_iff_not] at hd; exact hd
              go_wp2
              refine wp_region_ext (wr.heap.size + 1) (by kernel_rfl) (by kernel_rfl) ?_
              repeat (go_big_quiet_step (fail))
              refine wpQuiet_nil ?_
              intro w2 hw'
              obtain ⟨xw, hxw⟩ := hw'
              have hb2 := xw.property
              rw [← hxw] at hb2
              clear hxw xw hxa hxb hd1 hd2
              have hb3 : Below w.heap.size w w2 := (hb.alloc hbs _).trans (hb2.mono (by omega))
              go_wp2
              go_roundw
              case rel =>
                refine ⟨j + 1, by omega, by go_num, ?_, hb3⟩
                rw [HS.out, if_neg HD.out]
                exact own_keep hoA (by rw [World.size_alloc]; exact hb2)
              case measure => simp [intOf]; omega
          · have hj' : j = xs.length := by omega
            rw [hj', HFL.out] at ho
            go_wp2
            go_roundw
            case rel => exact ⟨k + 1, by omega, by go_num, ho, hb⟩
            case measure => simp [intOf]; omega
      · have hk9 : k = 9 := by omega
        subst hk9
        go_wp2
        go_ret2
        exact ⟨_, by rw [HM.out]; rfl, by rw [HSM.out]; exact ho, hb⟩
  · have HM := Lib.hid (show mvalid xs = false by simpa [mvalid] using h1)
    have HSM := Lib.hid (show sortM xs = [] from if_neg (by rw [HM.out]; decide))
    go_enter Try.func16, Try.ntmps16
    go_wp2_with fail
    refine (spMovesValid_c xs _ _ hx0 hz hn').mono ?_
    rintro e w1 ⟨rfl, hb1⟩
    rw [HM.out]
    go_wp2
    go_ret2
    refine ⟨_, by rw [HM.out]; rfl, by rw [HSM.out]; exact own_keep hE hb1, ?_⟩
    exact ((Below.refl _ _).alloc (Nat.le_refl _) _).trans (hb1.mono (by simp [World.size_alloc]))
end Go.Proofs.Ytdhhmphnmllbhaa
