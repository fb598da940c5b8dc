import Derived.Test.YtnhncbhhlbcieaaGreatSlI
import Derived.Test.YtnhncbhhlbcieaaGreatNames
import Derived.Test.YtnhncbhhlbcieaaGreatSource
import Derived.Test.YtnhncbhhlbcieaaGreatApp
import Derived.Test.YtnhncbhhlbcieaaGreatList
import Derived.Test.YtnhncbhhlbcieaaGreatSlP
import Derived.Lib.IndexAny
import Derived.Test.YtnhncbhhlbcieaaGreatNamesIn
import Derived.Test.YtnhncbhhlbcieaaGreatRangeQ
import Derived.Test.YtnhncbhhlbcieaaGreatColl
import Derived.Test.YtnhncbhhlbcieaaGreatSlS
import Derived.Test.YtnhncbhhlbcieaaGreatTail
import Derived.Test.YtnhncbhhlbcieaaGreatRow
import Derived.Test.YtnhncbhhlbcieaaGreatIm2
import Derived.Test.YtnhncbhhlbcieaaGreatCopy
import Derived.Stop.RegionWithIn
import Derived.Test.YtnhncbhhlbcieaaGreatIm3
import Derived.Test.YtnhncbhhlbcieaaGreatM2
import Derived.BigQuiet
import Derived.ChangeAlike
import Derived.RegionTactic
namespace Go.PD
open Go.PM Go.RowKit
def bN (b : Bool) : Nat := if b then 1 else 0
theorem slN_b (s : ByteArray) : slN s = bN (slB s) := rfl
end Go.PD
namespace Go.Proofs.YtnhncbhhlbcieaaGreat
open Go.RowKit Go.PM Go.PD Go.Lib

set_option maxRecDepth 100000 in
set_option maxHeartbeats 1600000 in
theorem traffic_c (k : Int) (a b : ByteArray) (w : World) :
    Calls Tryz.prog 33 #[.agg #[.int .i64 k, .string a, .string b]] w fun e w' => e = .returned (.tuple #[.int .i64 (trR (k, a, b)), .int .i64 (trW (k, a, b))]) ∧ Below w.heap.size w w' := by
  have HMS : ∀ (n : Nat) (w : World), (method (n + 1) 115 (.agg #[]) "loop.example/parallelmoves/impl.slots").run Tryz.prog w = .ok (117, .agg #[]) w := fun _ _ => by kernel_rfl
  have HMR : ∀ (n : Nat) (w : World), (method (n + 1) 116 (.agg #[]) "loop.example/parallelmoves/impl.slots").run Tryz.prog w = .ok (119, .agg #[]) w := fun _ _ => by kernel_rfl
  have HO := Lib.hid (fun W => operands_c k a b W)
  have hA := At.new w 58 #[.int .i64 k, .string a, .string b]
  have hB0 : Below w.heap.size w (w.alloc (.cells #[.int .i64 k, .string a, .string b] 58)) := (Below.refl _ _).alloc (Nat.le_refl _) _
  by_cases h1 : k = 1
  · subst h1
    have HF1 := Lib.hid (trR_swap a b)
    have HF2 := Lib.hid (trW_swap a b)
    rw [slN_b, slN_b] at HF1 HF2
    generalize slB a = ba at *
    generalize slB b = bb at *
    cases ba <;> cases bb
    all_goals
      go_enter Tryz.func33, Tryz.ntmps33
      go_wp2_with fail
      refine (HO.out _).mono ?_
      rintro e w1 ⟨rfl, hb1⟩
      first | rw [opV_yes] | skip
      first | rw [opV_no] | skip
      have hA1 := hA.keep hb1
      have hB1 := hB0.trans (hb1.mono (by simp))
      have q1 : w1.cell? ⟨w.heap.size, 0, none⟩ = some (.int .i64 1) := hA1.cell 0
      have hs1 := hB1.size
      clear hA hB0 hb1 hA1
      go_wp2_with (first | (go_at_call 117; refine held ?_) | (go_at_call 119; refine held ?_))
      unfold Held
      first | refine (slotSlots_c _).mono ?_ | refine (regSlots_c _).mono ?_
      rintro e w2 ⟨rfl, hb2⟩
      have hB2 := hB1.trans (hb2.mono hs1)
      have hs2 := hB2.size
      clear hb2 hB1 q1
      go_wp2_with (first | (go_at_call 117; refine held ?_) | (go_at_call 119; refine held ?_))
      unfold Held
      first | refine (slotSlots_c _).mono ?_ | refine (regSlots_c _).mono ?_
      rintro e w3 ⟨rfl, hb3⟩
      have hB3 := hB2.trans (hb3.mono hs2)
      clear hb3 hB2
      go_wp2
      go_ret2
      exact ⟨by rw [HF1.out, HF2.out]; rfl, hB3⟩
  · have t1 : (k == 1) = false := by simpa using h1
    have HF1 := Lib.hid (trR_move k a b h1)
    have HF2 := Lib.hid (trW_move k a b h1)
    rw [slN_b] at HF1 HF2
    clear h1
    generalize slB a = ba at *
    generalize slB b = bb at *
    cases ba <;> cases bb
    all_goals
      go_enter Tryz.func33, Tryz.ntmps33
      go_wp2_with fail
      refine (HO.out _).mono ?_
      rintro e w1 ⟨rfl, hb1⟩
      first | rw [opV_yes] | skip
      first | rw [opV_no] | skip
      have hA1 := hA.keep hb1
      have hB1 := hB0.trans (hb1.mono (by simp))
      have q1 : w1.cell? ⟨w.heap.size, 0, none⟩ = some (.int .i64 k) := hA1.cell 0
      have hs1 := hB1.size
      clear hA hB0 hb1 hA1
      go_wp2_with (first | (go_at_call 117; refine held ?_) | (go_at_call 119; refine held ?_))
      unfold Held
      first | refine (slotSlots_c _).mono ?_ | refine (regSlots_c _).mono ?_
      rintro e w2 ⟨rfl, hb2⟩
      have hB2 := hB1.trans (hb2.mono hs1)
      have hs2 := hB2.size
      clear hb2 hB1 q1
      go_wp2_with (first | (go_at_call 117; refine held ?_) | (go_at_call 119; refine held ?_))
      unfold Held
      first | refine (slotSlots_c _).mono ?_ | refine (regSlots_c _).mono ?_
      rintro e w3 ⟨rfl, hb3⟩
      have hB3 := hB2.trans (hb3.mono hs2)
      clear hb3 hB2
      go_wp2
      go_ret2
      exact ⟨by rw [HF1.out, HF2.out]; rfl, hB3⟩
set_option maxHeartbeats 800000 in
theorem slotAdd_c (b : Nat) (r q x y : Int) (w : World) (hA : At w b 61 #[.int .i64 r, .int .i64 q]) (h1 : 0 ≤ r ∧ r ≤ 1000000) (h2 : 0 ≤ q ∧ q ≤ 1000000) (h3 : 0 ≤ x ∧ x ≤ 10) (h4 : 0 ≤ y ∧ y ≤ 10) :
    Calls Tryz.prog 32 #[.pointer (some ⟨b, 0, none⟩), .int .i64 x, .int .i64 y] w fun e w' => (∃ v, e = .returned v) ∧ At w' b 61 #[.int .i64 (r + x), .int .i64 (q + y)] ∧ w.grownBy w' (some b) := by
  have c0 : w.cell? ⟨b, 0, none⟩ = some (.int .i64 r) := hA.cell 0
  have f0 := hA.frozen 0
  have A1 := hA.set 0 (.int .i64 (r + x))
  have c1 : (w.setCell ⟨b, 0, none⟩ (.int .i64 (r + x))).cell? ⟨b, 1, none⟩ = some (.int .i64 q) := A1.cell 1
  have f1 := A1.frozen 1
  have A2 := A1.set 1 (.int .i64 (q + y))
  have g1 : w.grownBy (w.setCell ⟨b, 0, none⟩ (.int .i64 (r + x))) (some b) := ⟨rfl, rfl, rfl, by simp [World.size_setCell], fun k _ hne => heap_setCell_other _ _ _ _ (fun e => hne (by rw [e]))⟩
  have g2 := grown_trans g1 (show World.grownBy _ ((w.setCell ⟨b, 0, none⟩ (.int .i64 (r + x))).setCell ⟨b, 1, none⟩ (.int .i64 (q + y))) (some b) from ⟨rfl, rfl, rfl, by simp [World.size_setCell], fun k _ hne => heap_setCell_other _ _ _ _ (fun e => hne (by rw [e]))⟩)
  clear hA A1 g1
  go_enter Tryz.func32, Tryz.ntmps32
  go_wp2
  go_end0
  exact ⟨⟨_, rfl⟩, A2, g2⟩
end Go.Proofs.YtnhncbhhlbcieaaGreat
namespace Go.PD
open Go.PM Go.RowKit
def trZ (f : St → Nat) (xs : List St) : Int := if svalid xs then ((trS f xs : Nat) : Int) else 0
theorem trS_zero (f : St → Nat) (xs : List St) : trS f (xs.take 0) = 0 := by simp [trS]
end Go.PD
namespace Go.Proofs.YtnhncbhhlbcieaaGreat
open Go.RowKit Go.PM Go.PD Go.Lib

set_option maxRecDepth 100000 in
set_option maxHeartbeats 1600000 in
theorem imSlotTraffic_c (xs : List St) (v : Value) (w : World) (hx : RdS w v xs) :
    Calls Tryz.prog 8 #[v] w fun e w' => e = .returned (.tuple #[.int .i64 (trZ trR xs), .int .i64 (trZ trW xs), .bool (svalid xs)]) ∧ Below w.heap.size w w' := by
  have hsv := Lib.hid (imSequenceValid_c xs v w hx)
  rcases Bool.eq_false_or_eq_true (svalid xs) with h1 | h1
  · have HZ : Hid (trZ trR xs = ((trS trR xs : Nat) : Int) ∧ trZ trW xs = ((trS trW xs : Nat) : Int)) := by
      unfold Hid trZ; rw [h1]; exact ⟨rfl, rfl⟩
    have HR := Lib.hid (fun k hk => trS_succ trR xs k hk)
    have HW := Lib.hid (fun k hk => trS_succ trW xs k hk)
    have HRL := Lib.hid (fun k => trS_le trR (fun x => (tr_le x).1) xs k)
    have HWL := Lib.hid (fun k => trS_le trW (fun x => (tr_le x).2) xs k)
    have HR0 := Lib.hid (trS_zero trR xs)
    have HW0 := Lib.hid (trS_zero trW xs)
    have HTL := Lib.hid (fun x : St => tr_le x)
    have hlen := svalid_len h1
    have H1 := Lib.hid h1
    clear h1
    go_enter Tryz.func8, Tryz.ntmps8
    go_wp2_with fail
    refine hsv.out.mono ?_
    rintro e w1 ⟨rfl, hb1⟩
    rw [H1.out]
    have hs1 := hb1.size
    have hx1 := hx.below hb1
    obtain ⟨A, cap, rfl, hn, hc, hcell⟩ := hx1.open
    clear hx1
    have hA0 := At.new w1 61 #[.int .i64 0, .int .i64 0]
    go_wp2
    go_loopw [7, 13] (fun _ i wr => ∃ (k : Nat), k ≤ xs.length ∧ i = .int .i64 k ∧ At wr w1.heap.size 61 #[.int .i64 ((trS trR (xs.take k) : Nat) : Int), .int .i64 ((trS trW (xs.take k) : Nat) : Int)] ∧ Below w1.heap.size w1 wr) (fun _ i _ => xs.length - (RowKit.intOf i).toNat)
    case atStart => exact ⟨0, by omega, rfl, by rw [HR0.out, HW0.out]; exact hA0, (Below.refl _ _).alloc (Nat.le_refl _) _⟩
    case round =>
      clear hA0
      obtain ⟨k, hk, rfl, hA, hb⟩ := hrel
      have hbs := hb.size
      have hlA := hA.lt
      by_cases hlt : k < xs.length
      · obtain ⟨b, off, rfl, hbl, hc1, hc2, hc3⟩ := hcell k hlt
        have hd1 := (hb.cell (p := ⟨b, off + k * 3, none⟩) hbl).trans hc1
        have hd2 := (hb.cell (p := ⟨b, off + k * 3 + 1, none⟩) hbl).trans hc2
        have hd3 := (hb.cell (p := ⟨b, off + k * 3 + 2, none⟩) hbl).trans hc3
        clear hc1 hc2 hc3 hcell
        have hr1 := HRL.out k
        have hw1 := HWL.out k
        have er : ((trS trR (xs.take (k + 1)) : Nat) : Int) = ((trS trR (xs.take k) : Nat) : Int) + ((trR (xs[k].1, xs[k].2.1, xs[k].2.2) : Nat) : Int) := by rw [HR.out k hlt]; push_cast; rfl
        have ew : ((trS trW (xs.take (k + 1)) : Nat) : Int) = ((trS trW (xs.take k) : Nat) : Int) + ((trW (xs[k].1, xs[k].2.1, xs[k].2.2) : Nat) : Int) := by rw [HW.out k hlt]; push_cast; rfl
        have htl := HTL.out (xs[k].1, xs[k].2.1, xs[k].2.2)
        have HTR := Lib.hid (fun W => traffic_c xs[k].1 xs[k].2.1 xs[k].2.2 W)
        generalize xs[k].1 = x1 at *
        generalize xs[k].2.1 = x2 at *
        generalize xs[k].2.2 = x3 at *
        have HER := Lib.hid er
        have HEW := Lib.hid ew
        clear er ew
        generalize trR (x1, x2, x3) = tr1 at *
        generalize trW (x1, x2, x3) = tw1 at *
        generalize trS trR (xs.take k) = sr at *
        generalize trS trW (xs.take k) = sw at *
        go_wp2_with fail
        refine (HTR.out _).mono ?_
        rintro e w2 ⟨rfl, hb2⟩
        have hb3 : Below wr.heap.size wr w2 := Below.trans ((Below.refl _ _).alloc (Nat.le_refl _) _) (hb2.mono (by simp))
        have hA2 := hA.keep hb3
        have hb4 := hb.trans (hb3.mono hbs)
        have hs4 := hb4.size
        have HAD := Lib.hid (slotAdd_c w1.heap.size (sr : Int) (sw : Int) (tr1 : Int) (tw1 : Int) w2 hA2 (by omega) (by omega) (by omega) (by omega))
        clear hb2 hb3 hA hb hd1 hd2 hd3 hA2
        go_wp2_with fail
        refine HAD.out.mono ?_
        rintro e w3 ⟨⟨v3, rfl⟩, hA3, hg3⟩
        have hb5 := hb4.trans (below_grown hg3 hs4 (fun g e => by cases e; exact Nat.le_refl _))
        clear hb4 hg3
        go_wp2
        go_roundw
        case rel => exact ⟨k + 1, by omega, by go_num, by rw [HER.out, HEW.out]; exact hA3, hb5⟩
        case measure => simp [RowKit.intOf]; omega
      · have hk' : k = xs.length := by omega
        subst hk'
        have hC1 := hA.cell 0
        have hC2 := hA.cell 1
        have q1 : wr.cell? ⟨w1.heap.size, 0, none⟩ = some (.int .i64 ((trS trR (xs.take xs.length) : Nat) : Int)) := hC1
        have q2 : wr.cell? ⟨w1.heap.size, 1, none⟩ = some (.int .i64 ((trS trW (xs.take xs.length) : Nat) : Int)) := hC2
        clear hC1 hC2 hA hcell
        go_wp2
        refine wp_region_quiet (C := fun w' => w' = wr.drew) (by kernel_rfl) (by kernel_rfl) rfl ?_
        simp only
        repeat (go_big_quiet_step (fail))
        refine wpQuiet_nil ?_
        intro w' hw'
        subst hw'
        go_wp2
        go_ret3
        exact ⟨by rw [HZ.out.1, HZ.out.2, H1.out]; rfl, hb1.trans (hb.mono hs1).drew⟩
  · have HZ : Hid (trZ trR xs = 0 ∧ trZ trW xs = 0) := by
      unfold Hid trZ; rw [h1]; exact ⟨rfl, rfl⟩
    have H1 := Lib.hid h1
    clear h1
    go_enter Tryz.func8, Tryz.ntmps8
    go_wp2_with fail
    refine hsv.out.mono ?_
    rintro e w1 ⟨rfl, hb1⟩
    rw [H1.out]
    go_wp2
    go_ret3
    exact ⟨by rw [HZ.out.1, HZ.out.2, H1.out]; rfl, hb1⟩
set_option maxRecDepth 100000 in
set_option maxHeartbeats 1600000 in
theorem stepNames_c (xs : List St) (hv : svalid xs = true) (v : Value) (w : World) (hx : RdS w v xs) :
    Calls Tryz.prog 55 #[v] w fun e w' => e = .returned (.string (snT xs)) ∧ Below w.heap.size w w' := by
  obtain ⟨A, cap, rfl, hn, hc, hcell⟩ := hx.open
  have HSZ := Lib.hid (fun k => snT_size hv k)
  have HST := Lib.hid (fun k hk => snT_step xs k hk)
  have HOK := Lib.hid (fun k hk => ok_sizes (svalid_at hv k hk))
  have HF := Lib.hid (snT_full xs)
  have H0 : Hid (snT (xs.take 0) = ⟨#[]⟩) := rfl
  have hlen := svalid_len hv
  clear hv
  go_enter Tryz.func55, Tryz.ntmps55
  go_wp2
  go_loopw [3, 5, 8] (fun o _ i wr => ∃ (k : Nat), k ≤ xs.length ∧ i = .int .i64 k ∧ o = .string (snT (xs.take k)) ∧ Below w.heap.size w wr) (fun _ _ i _ => xs.length - (RowKit.intOf i).toNat)
  case atStart => exact ⟨0, by omega, rfl, by rw [H0.out], Below.refl _ _⟩
  case round =>
    obtain ⟨k, hk, rfl, rfl, hb⟩ := hrel
    have hbs := hb.size
    by_cases hlt : k < xs.length
    · obtain ⟨b, off, rfl, hbl, hc1, hc2, hc3⟩ := hcell k hlt
      have hd1 := (hb.cell (p := ⟨b, off + k * 3, none⟩) hbl).trans hc1
      have hd2 := (hb.cell (p := ⟨b, off + k * 3 + 1, none⟩) hbl).trans hc2
      have hd3 := (hb.cell (p := ⟨b, off + k * 3 + 2, none⟩) hbl).trans hc3
      clear hc1 hc2 hc3 hcell
      have hsz := HSZ.out k
      have hok := HOK.out k hlt
      have hst : snT (xs.take k) ++ (xs[k].2.1 ++ xs[k].2.2) = snT (xs.take (k + 1)) := HST.out k hlt
      generalize xs[k].1 = x1 at *
      generalize xs[k].2.1 = x2 at *
      generalize xs[k].2.2 = x3 at *
      obtain ⟨z1, z2⟩ := hok
      have hz3 : (x2 ++ x3).size = 2 := by rw [ByteArray.size_append]; omega
      have HST2 := Lib.hid hst
      clear hst
      generalize snT (xs.take k) = tk at *
      go_wp2
      go_roundw
      case rel => exact ⟨k + 1, by omega, by go_num, by rw [← HST2.out], hb.alloc hbs _⟩
      case measure => simp [RowKit.intOf]; omega
    · have hk' : k = xs.length := by omega
      subst hk'
      go_wp2
      go_ret
      exact ⟨by rw [← HF.out]; rfl, hb⟩
end Go.Proofs.YtnhncbhhlbcieaaGreat
namespace Go.PM
open Go.RowKit
def rdH (f : Nat → ByteArray) (a : ByteArray) (p : Nat) : Bool := decide (nm p ≠ a) && decide (srcT f p = a)
def rsH (xs : List Mv) (a : ByteArray) (p : Nat) : Bool := decide (nm p ≠ a) && decide (srcM xs (nm p) = a)
theorem namesL_succ (h : Nat → Bool) (k : Nat) : namesL h (List.range (k + 1)) = if h k then namesL h (List.range k) ++ [placesL.getD k 0] else namesL h (List.range k) := by
  rw [List.range_succ]
  cases hk : h k <;> simp [namesL, hk]
theorem namesL_size (h : Nat → Bool) (k : Nat) : (namesL h (List.range k)).length ≤ k := by
  simp only [namesL, List.length_map]
  have := List.length_filter_le h (List.range k)
  simpa using this
theorem nm_isP (p : Nat) (hp : p < 9) : isP (nm p) = true ∧ pidx (nm p) = p := by
  match p, hp with
  | 0, _ | 1, _ | 2, _ | 3, _ | 4, _ | 5, _ | 6, _ | 7, _ | 8, _ => decide +kernel
theorem namesW_congr {h g : Nat → Bool} (e : ∀ p, p < 9 → h p = g p) : namesW h = namesW g := by
  have : (List.range 9).filter h = (List.range 9).filter g := List.filter_congr fun p hp => e p (by simpa using hp)
  rw [namesW, namesW, namesL, namesL, this]
theorem rsH_rdH {xs : List Mv} (h : MV xs) (a : ByteArray) : namesW (rsH xs a) = namesW (rdH (tabOf xs) a) := by
  refine namesW_congr fun p hp => ?_
  have h1 := nm_isP p hp
  have h2 := srcM_place h h1.1
  rw [h1.2] at h2
  rw [rsH, rdH, h2]
end Go.PM
namespace Go.Proofs.YtnhncbhhlbcieaaGreat
open Go.RowKit Go.PM

def rdrs (xs : List Mv) (a : ByteArray) : ByteArray := namesW (rdH (tabOf xs) a)
def namesS (h : Nat → Bool) (k : Nat) : ByteArray := ⟨(namesL h (List.range k)).toArray⟩
theorem namesS_size (h : Nat → Bool) (k : Nat) : (namesS h k).size ≤ k := by
  have := namesL_size h k
  simpa [namesS, ByteArray.size] using this
theorem namesS_yes (h : Nat → Bool) (k : Nat) (hk : h k = true) : namesS h k ++ nm k = namesS h (k + 1) := by
  apply ByteArray.ext
  rw [ByteArray.data_append, namesS, namesS, namesL_succ, if_pos hk]
  simp [nm]
theorem namesS_no (h : Nat → Bool) (k : Nat) (hk : h k = false) : namesS h k = namesS h (k + 1) := by
  rw [namesS, namesS, namesL_succ, if_neg (by rw [hk]; decide)]

end Go.Proofs.YtnhncbhhlbcieaaGreat
namespace Go.PM
open Go.RowKit
def busyH (xs : List Mv) (p : Nat) : Bool := decide (srcM xs (nm p) ≠ nm p)
/-- the moves that change something, of the first k places in their order -/
def busyF (xs : List Mv) (k : Nat) : List Mv := ((List.range k).filter (busyH xs)).map fun p => (nm p, srcM xs (nm p))
theorem busyF_yes (xs : List Mv) (k : Nat) (h : busyH xs k = true) : busyF xs (k + 1) = busyF xs k ++ [(nm k, srcM xs (nm k))] := by
  simp [busyF, List.range_succ, h]
theorem busyF_no (xs : List Mv) (k : Nat) (h : busyH xs k = false) : busyF xs (k + 1) = busyF xs k := by
  simp [busyF, List.range_succ, h]
theorem busyF_len (xs : List Mv) (k : Nat) : (busyF xs k).length ≤ k := by
  unfold busyF
  rw [List.length_map]
  have := List.length_filter_le (busyH xs) (List.range k)
  simpa using this
theorem key_inj {α β : Type _} {f : α → β} : ∀ {l : List α}, (l.map f).Nodup → ∀ {a b : α}, a ∈ l → b ∈ l → f a = f b → a = b
  | [], _, _, _, ha, _, _ => by cases ha
  | x :: l, h, a, b, ha, hb, e => by
    rw [List.map_cons, List.nodup_cons] at h
    rw [List.mem_cons] at ha hb
    rcases ha with rfl | ha
    · rcases hb with rfl | hb
      · rfl
      · exact absurd (List.mem_map.2 ⟨b, hb, e.symm⟩) h.1
    · rcases hb with rfl | hb
      · exact absurd (List.mem_map.2 ⟨a, ha, e⟩) h.1
      · exact key_inj h.2 ha hb e
theorem srcM_of_mem {xs : List Mv} (h : MV xs) {m : Mv} (hm : m ∈ xs) : srcM xs m.1 = m.2 := by
  unfold srcM
  cases hf : xs.find? (fun x => decide (x.1 = m.1)) with
  | none => exact absurd (List.find?_eq_none.1 hf m hm) (by simp)
  | some x =>
    have e1 : x.1 = m.1 := by simpa using List.find?_some hf
    have := key_inj h.2 (List.mem_of_find?_eq_some hf) hm e1
    subst this; rfl
theorem mem_of_srcM {xs : List Mv} {a : ByteArray} (h : srcM xs a ≠ a) : (a, srcM xs a) ∈ xs := by
  unfold srcM at h ⊢
  cases hf : xs.find? (fun x => decide (x.1 = a)) with
  | none => rw [hf] at h; exact absurd rfl h
  | some x =>
    have e1 : x.1 = a := by simpa using List.find?_some hf
    have e2 := List.mem_of_find?_eq_some hf
    rw [← e1]; exact e2
theorem busy_count {xs : List Mv} (h : MV xs) : (busyM xs).length = (busyF xs 9).length := by
  have n1 : ((busyM xs).map (·.1)).Nodup := h.2.sublist ((List.filter_sublist (l := xs)).map _)
  have n2 : ((busyF xs 9).map (·.1)).Nodup := by
    have e : (busyF xs 9).map (·.1) = ((List.range 9).filter (busyH xs)).map nm := by simp [busyF]
    rw [e]
    have : ∀ l : List Nat, l.Nodup → (∀ p ∈ l, p < 9) → (l.map nm).Nodup := by
      intro l
      induction l with
      | nil => intro _ _; simp
      | cons a l ih =>
        intro h1 h2
        rw [List.nodup_cons] at h1
        rw [List.map_cons, List.nodup_cons]
        refine ⟨fun hm => ?_, ih h1.2 fun p hp => h2 p (by simp [hp])⟩
        obtain ⟨b, hb, e⟩ := List.mem_map.1 hm
        have := nm_inj (h2 b (by simp [hb])) (h2 a (by simp)) e
        subst this; exact h1.1 hb
    exact this _ ((List.nodup_range (n := 9)).sublist List.filter_sublist) (fun p hp => by
      have := (List.mem_filter.1 hp).1; simpa using this)
  have l1 := nodup_le ((busyM xs).map (·.1)) ((busyF xs 9).map (·.1)) n1 (fun a ha => by
    obtain ⟨m, hm, rfl⟩ := List.mem_map.1 ha
    obtain ⟨hm1, hm2⟩ := List.mem_filter.1 hm
    have hok := h.1 m hm1
    unfold mok at hok; rw [Bool.and_eq_true] at hok
    have hp := pidx_spec hok.1
    refine List.mem_map.2 ⟨(nm (pidx m.1), srcM xs (nm (pidx m.1))), ?_, hp.2⟩
    unfold busyF
    refine List.mem_map.2 ⟨pidx m.1, List.mem_filter.2 ⟨by simpa using hp.1, ?_⟩, rfl⟩
    unfold busyH
    rw [hp.2, srcM_of_mem h hm1]
    simp only [decide_eq_true_eq] at hm2 ⊢
    exact fun e => hm2 e.symm)
  have l2 := nodup_le ((busyF xs 9).map (·.1)) ((busyM xs).map (·.1)) n2 (fun a ha => by
    obtain ⟨m, hm, rfl⟩ := List.mem_map.1 ha
    unfold busyF at hm
    obtain ⟨p, hp, rfl⟩ := List.mem_map.1 hm
    obtain ⟨hp1, hp2⟩ := List.mem_filter.1 hp
    unfold busyH at hp2
    have hne : srcM xs (nm p) ≠ nm p := by simpa using hp2
    refine List.mem_map.2 ⟨_, List.mem_filter.2 ⟨mem_of_srcM hne, ?_⟩, rfl⟩
    simp only [decide_eq_true_eq]
    exact fun e => hne e.symm)
  simp only [List.length_map] at l1 l2
  omega
end Go.PM
namespace Go.PM
open Go.RowKit
/-- the moves that give to place p the value of S p, of the first k places -/
def lsH (S : Nat → ByteArray) (p : Nat) : Bool := decide (S p ≠ nm p)
def lsF (S : Nat → ByteArray) (k : Nat) : List Mv := ((List.range k).filter (lsH S)).map fun p => (nm p, S p)
theorem lsF_yes (S : Nat → ByteArray) (k : Nat) (h : lsH S k = true) : lsF S (k + 1) = lsF S k ++ [(nm k, S k)] := by
  simp [lsF, List.range_succ, h]
theorem lsF_no (S : Nat → ByteArray) (k : Nat) (h : lsH S k = false) : lsF S (k + 1) = lsF S k := by
  simp [lsF, List.range_succ, h]
theorem lsF_len (S : Nat → ByteArray) (k : Nat) : (lsF S k).length ≤ k := by
  unfold lsF
  rw [List.length_map]
  have := List.length_filter_le (lsH S) (List.range k)
  simpa using this
theorem lsF_congr {S T : Nat → ByteArray} {k : Nat} (h : ∀ p, p < k → S p = T p) : lsF S k = lsF T k := by
  have e : (List.range k).filter (lsH S) = (List.range k).filter (lsH T) := List.filter_congr fun p hp => by
    have : p < k := by simpa using hp
    rw [lsH, lsH, h p this]
  unfold lsF
  rw [e]
  refine List.map_congr_left fun p hp => ?_
  have : p < k := by have := (List.mem_filter.1 hp).1; simpa using this
  rw [h p this]
theorem lsF_keys (S : Nat → ByteArray) : ((lsF S 9).map (·.1)).Nodup := by
  have e : (lsF S 9).map (·.1) = ((List.range 9).filter (lsH S)).map nm := by simp [lsF]
  rw [e]
  have : ∀ l : List Nat, l.Nodup → (∀ p ∈ l, p < 9) → (l.map nm).Nodup := by
    intro l
    induction l with
    | nil => intro _ _; simp
    | cons a l ih =>
      intro h1 h2
      rw [List.nodup_cons] at h1
      rw [List.map_cons, List.nodup_cons]
      refine ⟨fun hm => ?_, ih h1.2 fun p hp => h2 p (by simp [hp])⟩
      obtain ⟨b, hb, e⟩ := List.mem_map.1 hm
      have := nm_inj (h2 b (by simp [hb])) (h2 a (by simp)) e
      subst this; exact h1.1 hb
  exact this _ ((List.nodup_range (n := 9)).sublist List.filter_sublist) (fun p hp => by
    have := (List.mem_filter.1 hp).1; simpa using this)
theorem lsF_mem {S : Nat → ByteArray} {m : Mv} (h : m ∈ lsF S 9) : ∃ p, p < 9 ∧ S p ≠ nm p ∧ m = (nm p, S p) := by
  obtain ⟨p, hp, rfl⟩ := List.mem_map.1 h
  obtain ⟨h1, h2⟩ := List.mem_filter.1 hp
  exact ⟨p, by simpa using h1, by simpa [lsH] using h2, rfl⟩
/-- a source function whose values are places or digits -/
def SVal (S : Nat → ByteArray) : Prop := ∀ p, p < 9 → isS (S p) = true
theorem lsF_MV {S : Nat → ByteArray} (h : SVal S) : MV (lsF S 9) := by
  refine ⟨fun m hm => ?_, lsF_keys S⟩
  obtain ⟨p, hp, _, rfl⟩ := lsF_mem hm
  unfold mok
  rw [isP_nm hp, h p hp]; rfl
theorem lsF_src (S : Nat → ByteArray) {p : Nat} (hp : p < 9) : srcM (lsF S 9) (nm p) = S p := by
  unfold srcM
  cases hf : (lsF S 9).find? (fun x => decide (x.1 = nm p)) with
  | none =>
    by_cases hh : S p = nm p
    · exact hh.symm
    · refine absurd (List.find?_eq_none.1 hf (nm p, S p) ?_) (by simp)
      exact List.mem_map.2 ⟨p, List.mem_filter.2 ⟨by simpa using hp, by simpa [lsH] using hh⟩, rfl⟩
  | some x =>
    have e1 : x.1 = nm p := by simpa using List.find?_some hf
    obtain ⟨q, hq, _, rfl⟩ := lsF_mem (List.mem_of_find?_eq_some hf)
    have := nm_inj hq hp e1
    subst this; rfl
theorem nm_ne (p : Nat) : nm p ≠ emp := by
  intro h
  have := congrArg ByteArray.size h
  cases this
theorem srcT_ne (f : Nat → ByteArray) (p : Nat) : srcT f p ≠ emp := by
  unfold srcT
  split
  · exact nm_ne p
  · next h => exact h

/-- the source function of one behind the other -/
def cmpF (S T : Nat → ByteArray) (p : Nat) : ByteArray := if isP (T p) then S (pidx (T p)) else T p
def cmpM (xs ys : List Mv) (p : Nat) : ByteArray := cmpF (fun q => srcM xs (nm q)) (fun q => srcM ys (nm q)) p
theorem cmpM_eq (xs ys : List Mv) (p : Nat) : cmpM xs ys p = if isP (srcM ys (nm p)) then srcM xs (srcM ys (nm p)) else srcM ys (nm p) := by
  unfold cmpM cmpF
  by_cases h : isP (srcM ys (nm p)) = true
  · rw [if_pos h, if_pos h]
    show srcM xs (nm (pidx (srcM ys (nm p)))) = _
    rw [(pidx_spec h).2]
  · rw [if_neg h, if_neg h]
theorem cmpF_assoc (A B C : Nat → ByteArray) (p : Nat) : cmpF (cmpF A B) C p = cmpF A (cmpF B C) p := by
  unfold cmpF
  by_cases h : isP (C p) = true
  · rw [if_pos h, if_pos h]
  · rw [if_neg h, if_neg h, if_neg h]
theorem cmpF_id (T : Nat → ByteArray) (p : Nat) : cmpF nm T p = T p := by
  unfold cmpF
  by_cases h : isP (T p) = true
  · rw [if_pos h, (pidx_spec h).2]
  · rw [if_neg h]
theorem cmpF_nm (S : Nat → ByteArray) {p : Nat} (hp : p < 9) : cmpF S nm p = S p := by
  unfold cmpF
  rw [if_pos (isP_nm hp), pidx_nm hp]
theorem cmpF_congr {A B C D : Nat → ByteArray} (h1 : ∀ p, p < 9 → A p = C p) (h2 : ∀ p, p < 9 → B p = D p) {p : Nat} (hp : p < 9) : cmpF A B p = cmpF C D p := by
  unfold cmpF
  rw [h2 p hp]
  by_cases h : isP (D p) = true
  · rw [if_pos h, if_pos h, h1 _ (pidx_spec h).1]
  · rw [if_neg h, if_neg h]
theorem isS_nm {p : Nat} (h : p < 9) : isS (nm p) = true := by unfold isS; rw [isP_nm h]; rfl
theorem SVal_nm : SVal nm := fun _ h => isS_nm h
theorem SVal_cmp {A B : Nat → ByteArray} (ha : SVal A) (hb : SVal B) : SVal (cmpF A B) := by
  intro p hp
  unfold cmpF
  by_cases h : isP (B p) = true
  · rw [if_pos h]; exact ha _ (pidx_spec h).1
  · rw [if_neg h]; exact hb p hp
theorem SVal_M {xs : List Mv} (h : MV xs) : SVal fun q => srcM xs (nm q) := by
  intro p hp
  show isS (srcM xs (nm p)) = true
  unfold srcM
  cases hf : xs.find? (fun m => decide (m.1 = nm p)) with
  | none => exact isS_nm hp
  | some m =>
    have := h.1 m (List.mem_of_find?_eq_some hf)
    unfold mok at this; rw [Bool.and_eq_true] at this
    exact this.2
/-- n times one behind the other -/
def pwF (S : Nat → ByteArray) : Nat → Nat → ByteArray
  | 0 => nm
  | n + 1 => cmpF (pwF S n) S
theorem pwF_left (S : Nat → ByteArray) : ∀ n p, p < 9 → cmpF S (pwF S n) p = pwF S (n + 1) p
  | 0, p, hp => by
    show cmpF S nm p = cmpF nm S p
    rw [cmpF_nm S hp, cmpF_id]
  | n + 1, p, hp => by
    show cmpF S (cmpF (pwF S n) S) p = cmpF (pwF S (n + 1)) S p
    rw [← cmpF_assoc]
    exact cmpF_congr (fun q hq => pwF_left S n q hq) (fun _ _ => rfl) hp
theorem pwF_congr {S T : Nat → ByteArray} (h : ∀ p, p < 9 → S p = T p) : ∀ n p, p < 9 → pwF S n p = pwF T n p
  | 0, _, _ => rfl
  | n + 1, _, hp => cmpF_congr (fun q hq => pwF_congr h n q hq) h hp
theorem pwF_two (S : Nat → ByteArray) : ∀ n p, p < 9 → pwF (cmpF S S) n p = pwF S (2 * n) p
  | 0, _, _ => rfl
  | n + 1, p, hp => by
    show cmpF (pwF (cmpF S S) n) (cmpF S S) p = _
    rw [show 2 * (n + 1) = 2 * n + 1 + 1 by omega]
    show _ = cmpF (cmpF (pwF S (2 * n)) S) S p
    rw [cmpF_assoc]
    exact cmpF_congr (fun q hq => pwF_two S n q hq) (fun _ _ => rfl) hp
theorem SVal_pw {S : Nat → ByteArray} (h : SVal S) : ∀ n, SVal (pwF S n)
  | 0 => SVal_nm
  | n + 1 => SVal_cmp (SVal_pw h n) h
theorem pwF_add (S : Nat → ByteArray) (m : Nat) : ∀ n p, p < 9 → pwF S (m + n) p = cmpF (pwF S m) (pwF S n) p
  | 0, p, hp => (cmpF_nm _ hp).symm
  | n + 1, p, hp => by
    show cmpF (pwF S (m + n)) S p = cmpF (pwF S m) (cmpF (pwF S n) S) p
    rw [← cmpF_assoc]
    exact cmpF_congr (fun q hq => pwF_add S m n q hq) (fun _ _ => rfl) hp

/-- tables: the ones behind the others, and without idle moves -/
def behF (f : Nat → ByteArray) (s : ByteArray) : ByteArray := if isP s then srcT f (pidx s) else s
def thenF (f g : Nat → ByteArray) (p : Nat) : ByteArray := behF f (srcT g p)
theorem thenF_cmp (f g : Nat → ByteArray) (p : Nat) : thenF f g p = cmpF (srcT f) (srcT g) p := rfl
theorem thenF_ne (f g : Nat → ByteArray) (p : Nat) : thenF f g p ≠ emp := by
  unfold thenF behF
  split
  · exact srcT_ne _ _
  · exact srcT_ne _ _
theorem srcT_then (f g : Nat → ByteArray) (p : Nat) : srcT (thenF f g) p = cmpF (srcT f) (srcT g) p := by
  unfold srcT
  rw [if_neg (thenF_ne f g p)]
  rfl
def noIdle (t : Nat → ByteArray) (p : Nat) : ByteArray := if t p = nm p then emp else t p
theorem mvT_idle (t : Nat → ByteArray) : mvT (noIdle t) (List.range 9) = lsF (srcT t) 9 := by
  unfold mvT lsF
  have e : (List.range 9).filter (hasT (noIdle t)) = (List.range 9).filter (lsH (srcT t)) := List.filter_congr fun p _ => by
    unfold hasT lsH noIdle srcT
    by_cases h1 : t p = emp
    · have : ¬ t p = nm p := fun e => nm_ne p (e ▸ h1)
      simp [h1]
    · by_cases h2 : t p = nm p
      · simp [h2]
      · simp [h1, h2]
  rw [e]
  refine List.map_congr_left fun p hp => ?_
  have h := (List.mem_filter.1 hp).2
  unfold lsH at h
  have h : srcT t p ≠ nm p := by simpa using h
  unfold noIdle srcT at *
  by_cases h1 : t p = emp
  · rw [if_pos h1] at h; exact absurd rfl h
  · rw [if_neg h1] at h ⊢
    rw [if_neg h]
theorem srcT_M {xs : List Mv} (h : MV xs) {p : Nat} (hp : p < 9) : srcT (tabOf xs) p = srcM xs (nm p) := srcM_nm h hp
theorem srcT_zero (p : Nat) : srcT (fun _ => emp) p = nm p := rfl

/-- what the functions answer -/
def compM (xs ys : List Mv) : List Mv := if mvalid xs && mvalid ys then lsF (cmpM xs ys) 9 else []
def powM (xs : List Mv) (n : Int) : List Mv := if mvalid xs && (decide (0 ≤ n) && decide (n ≤ 60)) then lsF (pwF (fun q => srcM xs (nm q)) n.toNat) 9 else []
theorem compM_tab {xs ys : List Mv} (h1 : MV xs) (h2 : MV ys) : mvT (noIdle (thenF (tabOf xs) (tabOf ys))) (List.range 9) = compM xs ys := by
  have m1 : mvalid xs = true := by simpa [mvalid] using h1
  have m2 : mvalid ys = true := by simpa [mvalid] using h2
  rw [mvT_idle, compM, m1, m2]
  refine lsF_congr fun p hp => ?_
  rw [srcT_then]
  exact cmpF_congr (fun q hq => srcT_M h1 hq) (fun q hq => srcT_M h2 hq) hp
/-- spec's way: the moves behind moves that are as moves once more -/
theorem cmpM_pw (xs : List Mv) (n : Nat) : lsF (cmpM (lsF (pwF (fun q => srcM xs (nm q)) n) 9) xs) 9 = lsF (pwF (fun q => srcM xs (nm q)) (n + 1)) 9 :=
  lsF_congr fun _ hp => cmpF_congr (fun _ hq => lsF_src _ hq) (fun _ _ => rfl) hp
theorem lsF_nm : lsF nm 9 = [] := by
  unfold lsF
  rw [List.filter_eq_nil_iff.2]
  · rfl
  · intro p _; simp [lsH]
/-- the loop's own invariant: what is done, and what is done n times more -/
def PwInv (f : Nat → ByteArray) (N : Nat) (d x : Nat → ByteArray) (n : Nat) : Prop := ∀ p, p < 9 → cmpF (srcT d) (pwF (srcT x) n) p = pwF (srcT f) N p
theorem PwInv_start (f : Nat → ByteArray) (N : Nat) : PwInv f N (fun _ => emp) f N := fun p _ => cmpF_id _ p
theorem PwInv_odd {f d x : Nat → ByteArray} {N n : Nat} (h : PwInv f N d x n) (h1 : n % 2 = 1) : PwInv f N (thenF d x) (thenF x x) (n / 2) := by
  intro p hp
  rw [← h p hp]
  have e : n = 2 * (n / 2) + 1 := by omega
  have e1 : ∀ q, q < 9 → pwF (srcT (thenF x x)) (n / 2) q = pwF (srcT x) (2 * (n / 2)) q := fun q hq => by
    rw [pwF_congr (fun r _ => srcT_then x x r) _ q hq]
    exact pwF_two _ _ q hq
  rw [cmpF_congr (fun q _ => srcT_then d x q) e1 hp, cmpF_assoc]
  refine cmpF_congr (fun _ _ => rfl) (fun q hq => ?_) hp
  rw [pwF_left _ _ q hq, ← e]
theorem PwInv_even {f d x : Nat → ByteArray} {N n : Nat} (h : PwInv f N d x n) (h1 : n % 2 = 0) : PwInv f N d (thenF x x) (n / 2) := by
  intro p hp
  rw [← h p hp]
  have e : n = 2 * (n / 2) := by omega
  refine cmpF_congr (fun _ _ => rfl) (fun q hq => ?_) hp
  rw [pwF_congr (fun r _ => srcT_then x x r) _ q hq, pwF_two _ _ q hq, ← e]
theorem PwInv_end {f d x : Nat → ByteArray} {N : Nat} (h : PwInv f N d x 0) {p : Nat} (hp : p < 9) : srcT d p = pwF (srcT f) N p := by
  rw [← h p hp]; exact (cmpF_nm _ hp).symm
end Go.PM
namespace Go.PM
open Go.RowKit
theorem beqB (a b : ByteArray) : (a == b) = (a.data == b.data) := by cases a; cases b; rfl
instance lawB : LawfulBEq ByteArray where
  eq_of_beq {a b} h := by
    rw [beqB] at h
    exact ByteArray.ext (eq_of_beq h)
  rfl {a} := by rw [beqB]; exact beq_self_eq_true _
/-- how many of the moves read a place -/
def rdN (xs : List Mv) (a : ByteArray) : Nat := (xs.map (·.2)).count a
/-- a move whose place none reads -/
def freeB (xs : List Mv) (m : Mv) : Bool := decide (rdN xs m.1 = 0)
/-- the first move that can be done ahead of all others -/
def aheadI (xs : List Mv) : Option Nat := xs.findIdx? (freeB xs)
def aheadZ (xs : List Mv) : Int := match aheadI xs with
  | some i => (i : Int)
  | none => -1
def spT : ByteArray := ⟨#[116]⟩
/-- moves that read a place read another one instead -/
def instM (a b : ByteArray) (xs : List Mv) : List Mv := xs.map fun m => if m.2 = a then (m.1, b) else m
/-- moves behind one that is done -/
def redM (d : Mv) (xs : List Mv) : List Mv := if isD d.2 = true then xs else instM d.2 d.1 xs
theorem isP_cases {s : ByteArray} (h : isP s = true) : isD s = false ∧ s ≠ spT := by
  obtain ⟨h1, h2⟩ := pidx_spec h
  rw [← h2]
  generalize pidx s = p at h1
  match p, h1 with
  | 0, _ | 1, _ | 2, _ | 3, _ | 4, _ | 5, _ | 6, _ | 7, _ | 8, _ => decide +kernel
theorem isD_cases {s : ByteArray} (h : isD s = true) : isP s = false ∧ s ≠ spT := by
  refine ⟨?_, fun e => ?_⟩
  · rcases Bool.eq_false_or_eq_true (isP s) with h1 | h1
    · rw [(isP_cases h1).1] at h; cases h
    · exact h1
  · subst e; revert h; decide +kernel
theorem spT_cases : isP spT = false ∧ isD spT = false := by decide +kernel
theorem instM_len (a b : ByteArray) (xs : List Mv) : (instM a b xs).length = xs.length := by simp [instM]
theorem redM_len (d : Mv) (xs : List Mv) : (redM d xs).length = xs.length := by
  unfold redM; split
  · rfl
  · exact instM_len _ _ _
theorem instM_keys (a b : ByteArray) (xs : List Mv) : (instM a b xs).map (·.1) = xs.map (·.1) := by
  unfold instM
  rw [List.map_map]
  refine List.map_congr_left fun m _ => ?_
  show (if m.2 = a then (m.1, b) else m).1 = m.1
  split <;> rfl
theorem redM_keys (d : Mv) (xs : List Mv) : (redM d xs).map (·.1) = xs.map (·.1) := by
  unfold redM; split
  · rfl
  · exact instM_keys _ _ _
theorem instM_mem {a b : ByteArray} {xs : List Mv} {m : Mv} (h : m ∈ instM a b xs) : ∃ x ∈ xs, m.1 = x.1 ∧ ((x.2 = a ∧ m.2 = b) ∨ (x.2 ≠ a ∧ m = x)) := by
  unfold instM at h
  obtain ⟨x, hx, e⟩ := List.mem_map.1 h
  by_cases hxa : x.2 = a
  · rw [if_pos hxa] at e; subst e
    exact ⟨x, hx, rfl, .inl ⟨hxa, rfl⟩⟩
  · rw [if_neg hxa] at e; subst e
    exact ⟨x, hx, rfl, .inr ⟨hxa, rfl⟩⟩
theorem instM_at (a b : ByteArray) (xs : List Mv) (k : Nat) (hk : k < (instM a b xs).length) : (instM a b xs)[k] = if (xs[k]'(by rwa [instM_len] at hk)).2 = a then ((xs[k]'(by rwa [instM_len] at hk)).1, b) else xs[k]'(by rwa [instM_len] at hk) := by
  simp only [instM, List.getElem_map]
theorem instM_none {a b : ByteArray} {xs : List Mv} (h : rdN xs a = 0) : instM a b xs = xs := by
  unfold instM
  have : ∀ m ∈ xs, (if m.2 = a then (m.1, b) else m) = m := fun m hm => by
    rw [if_neg]
    intro e
    unfold rdN at h
    rw [List.count_eq_zero] at h
    exact h (List.mem_map.2 ⟨m, hm, e⟩)
  rw [List.map_congr_left this, List.map_id']
theorem instM_rdN (a b : ByteArray) (hab : b ≠ a) : ∀ xs : List Mv, rdN (instM a b xs) a = 0 ∧ rdN (instM a b xs) b = rdN xs b + rdN xs a ∧ ∀ c, c ≠ a → c ≠ b → rdN (instM a b xs) c = rdN xs c
  | [] => ⟨rfl, rfl, fun _ _ _ => rfl⟩
  | x :: xs => by
    obtain ⟨h1, h2, h3⟩ := instM_rdN a b hab xs
    have e : instM a b (x :: xs) = (if x.2 = a then (x.1, b) else x) :: instM a b xs := rfl
    unfold rdN at *
    rw [e, List.map_cons, List.map_cons]
    by_cases hx : x.2 = a
    · rw [if_pos hx]
      refine ⟨?_, ?_, fun c hc hc2 => ?_⟩
      · rw [List.count_cons_of_ne (by exact hab), h1]
      · rw [List.count_cons_self, h2, hx, List.count_cons_of_ne (by exact fun e => hab e.symm), List.count_cons_self]; omega
      · rw [List.count_cons_of_ne (by exact fun e => hc2 e.symm), h3 c hc hc2, hx, List.count_cons_of_ne (by exact fun e => hc e.symm)]
    · rw [if_neg hx]
      refine ⟨?_, ?_, fun c hc hc2 => ?_⟩
      · rw [List.count_cons_of_ne hx, h1]
      · rw [List.count_cons, h2, List.count_cons_of_ne hx, List.count_cons]; omega
      · rw [List.count_cons, h3 c hc hc2, List.count_cons]
theorem rdN_zero {xs : List Mv} {a : ByteArray} : rdN xs a = 0 ↔ ∀ m ∈ xs, m.2 ≠ a := by
  unfold rdN
  rw [List.count_eq_zero]
  constructor
  · intro h m hm e; exact h (List.mem_map.2 ⟨m, hm, e⟩)
  · intro h hm
    obtain ⟨m, hm, e⟩ := List.mem_map.1 hm
    exact h m hm e
theorem rdN_erase (xs : List Mv) (i : Nat) (hi : i < xs.length) (a : ByteArray) : rdN xs a = rdN (xs.eraseIdx i) a + if xs[i].2 = a then 1 else 0 := by
  induction xs generalizing i with
  | nil => simp at hi
  | cons x xs ih =>
    cases i with
    | zero =>
      unfold rdN
      rw [List.eraseIdx_zero, List.tail_cons, List.map_cons, List.count_cons]
      simp
    | succ i =>
      have := ih i (by simpa using hi)
      unfold rdN at this ⊢
      rw [List.eraseIdx_cons_succ, List.map_cons, List.map_cons, List.count_cons, List.count_cons, this]
      simp only [List.getElem_cons_succ]; omega
theorem erase_mem {α : Type _} {xs : List α} {i : Nat} {m : α} (h : m ∈ xs.eraseIdx i) : m ∈ xs := (List.eraseIdx_sublist xs i).subset h
theorem erase_key {xs : List Mv} (hn : (xs.map (·.1)).Nodup) {i : Nat} (hi : i < xs.length) : ∀ m ∈ xs.eraseIdx i, m.1 ≠ xs[i].1 := by
  induction xs generalizing i with
  | nil => simp at hi
  | cons x xs ih =>
    rw [List.map_cons, List.nodup_cons] at hn
    intro m hm e
    cases i with
    | zero =>
      rw [List.eraseIdx_zero, List.tail_cons] at hm
      exact hn.1 (List.mem_map.2 ⟨m, hm, by simpa using e⟩)
    | succ i =>
      rw [List.eraseIdx_cons_succ, List.mem_cons] at hm
      simp only [List.getElem_cons_succ] at e
      rcases hm with rfl | hm
      · exact hn.1 (List.mem_map.2 ⟨xs[i]'(by simpa using hi), List.getElem_mem _, e.symm⟩)
      · exact ih hn.2 (by simpa using hi) m hm e
theorem erase_or {α : Type _} {xs : List α} {i : Nat} (hi : i < xs.length) {m : α} (h : m ∈ xs) : m = xs[i] ∨ m ∈ xs.eraseIdx i := by
  induction xs generalizing i with
  | nil => simp at hi
  | cons x xs ih =>
    cases i with
    | zero =>
      rw [List.mem_cons] at h
      rcases h with rfl | h
      · exact .inl rfl
      · exact .inr (by simpa using h)
    | succ i =>
      rw [List.mem_cons] at h
      rw [List.eraseIdx_cons_succ, List.mem_cons]
      rcases h with rfl | h
      · exact .inr (.inl rfl)
      · rcases ih (by simpa using hi) h with e | e
        · exact .inl (by simpa using e)
        · exact .inr (.inr e)
/-- moves that wait -/
structure Wt (ws : List Mv) : Prop where
  keys : (ws.map (·.1)).Nodup
  to_ : ∀ m ∈ ws, isP m.1 = true
  from_ : ∀ m ∈ ws, isP m.2 = true ∨ isD m.2 = true ∨ m.2 = spT
  ne : ∀ m ∈ ws, m.1 ≠ m.2
  one : rdN ws spT ≤ 1
theorem aheadI_some {ws : List Mv} {i : Nat} (h : aheadI ws = some i) : ∃ hi : i < ws.length, rdN ws ws[i].1 = 0 := by
  unfold aheadI at h
  obtain ⟨h1, h2, _⟩ := List.findIdx?_eq_some_iff_getElem.1 h
  refine ⟨h1, ?_⟩
  unfold freeB at h2
  simpa using h2
theorem aheadI_none {ws : List Mv} (h : aheadI ws = none) : ∀ m ∈ ws, rdN ws m.1 ≠ 0 := by
  intro m hm e
  unfold aheadI at h
  have := List.findIdx?_eq_none_iff.1 h m hm
  unfold freeB at this
  simp [e] at this
theorem Wt.erase {ws : List Mv} (h : Wt ws) (i : Nat) : Wt (ws.eraseIdx i) := by
  refine ⟨h.keys.sublist ((List.eraseIdx_sublist ws i).map _), fun m hm => h.to_ m (erase_mem hm), fun m hm => h.from_ m (erase_mem hm), fun m hm => h.ne m (erase_mem hm), ?_⟩
  refine Nat.le_trans ?_ h.one
  unfold rdN
  exact ((List.eraseIdx_sublist ws i).map _).count_le _
theorem Wt.inst {ws : List Mv} (h : Wt ws) {a b : ByteArray} (_hab : b ≠ a) (hb : isP b = true ∨ b = spT) (hk : ∀ m ∈ ws, m.1 ≠ b) (h1 : rdN (instM a b ws) spT ≤ 1) : Wt (instM a b ws) := by
  refine ⟨by rw [instM_keys]; exact h.keys, fun m hm => ?_, fun m hm => ?_, fun m hm => ?_, h1⟩
  · obtain ⟨x, hx, e, _⟩ := instM_mem hm
    rw [e]; exact h.to_ x hx
  · obtain ⟨x, hx, e, (⟨e1, e2⟩ | ⟨e1, e2⟩)⟩ := instM_mem hm
    · rw [e2]
      rcases hb with hb | hb
      · exact .inl hb
      · exact .inr (.inr hb)
    · rw [e2]; exact h.from_ x hx
  · obtain ⟨x, hx, e, (⟨e1, e2⟩ | ⟨e1, e2⟩)⟩ := instM_mem hm
    · rw [e, e2]; exact hk x hx
    · rw [e2]; exact h.ne x hx
theorem perm_of_sub {α : Type _} [BEq α] [LawfulBEq α] : ∀ (l m : List α), l.Nodup → (∀ a ∈ l, a ∈ m) → m.length ≤ l.length → l.Perm m
  | [], m, _, _, hl => by
    have : m = [] := List.length_eq_zero_iff.1 (by simpa using hl)
    rw [this]
  | a :: l, m, hn, hs, hl => by
    rw [List.nodup_cons] at hn
    have ha : a ∈ m := hs a (by simp)
    have h1 := perm_of_sub l (m.erase a) hn.2 (fun b hb => (List.mem_erase_of_ne (fun (e : b = a) => hn.1 (by rw [← e]; exact hb))).2 (hs b (by simp [hb]))) (by
      rw [List.length_erase_of_mem ha]; simp only [List.length_cons] at hl; omega)
    exact (List.Perm.cons a h1).trans (List.perm_cons_erase ha).symm
/-- where each place waits for a reader, all moves are of closed rings -/
theorem Wt.full {ws : List Mv} (h : Wt ws) (hn : aheadI ws = none) : (∀ m ∈ ws, rdN ws m.1 = 1) ∧ (∀ m ∈ ws, ∃ x ∈ ws, x.1 = m.2) ∧ rdN ws spT = 0 := by
  have hp : (ws.map (·.1)).Perm (ws.map (·.2)) := by
    refine perm_of_sub _ _ h.keys (fun a ha => ?_) (by simp)
    obtain ⟨m, hm, rfl⟩ := List.mem_map.1 ha
    have := aheadI_none hn m hm
    unfold rdN at this
    exact List.count_pos_iff.1 (Nat.pos_of_ne_zero this)
  have hx : ∀ m ∈ ws, ∃ x ∈ ws, x.1 = m.2 := fun m hm => by
    have := hp.mem_iff.2 (List.mem_map.2 ⟨m, hm, rfl⟩ : m.2 ∈ ws.map (·.2))
    obtain ⟨x, hx, e⟩ := List.mem_map.1 this
    exact ⟨x, hx, e⟩
  refine ⟨fun m hm => ?_, hx, ?_⟩
  · unfold rdN
    rw [← hp.count_eq]
    have h1 := (List.nodup_iff_count.1 h.keys) m.1
    have h2 : 0 < (ws.map (·.1)).count m.1 := List.count_pos_iff.2 (List.mem_map.2 ⟨m, hm, rfl⟩)
    omega
  · rw [rdN_zero]
    intro m hm e
    obtain ⟨x, hx, e2⟩ := hx m hm
    exact (isP_cases (h.to_ x hx)).2 (e2.trans e)
theorem Wt.some_ {ws : List Mv} (h : Wt ws) {i : Nat} (hi : i < ws.length) (_hf : rdN ws ws[i].1 = 0) : Wt (redM ws[i] (ws.eraseIdx i)) := by
  unfold redM
  split
  · exact h.erase i
  · next hd =>
    have hm := List.getElem_mem hi
    have hne := h.ne _ hm
    refine (h.erase i).inst hne (.inl (h.to_ _ hm)) (erase_key h.keys hi) ?_
    have ht : ws[i].1 ≠ spT := (isP_cases (h.to_ _ hm)).2
    obtain ⟨r1, r2, r3⟩ := instM_rdN ws[i].2 ws[i].1 hne (ws.eraseIdx i)
    by_cases e : ws[i].2 = spT
    · rw [e] at r1; rw [e, r1]; omega
    · rw [r3 _ (fun e' => e e'.symm) (fun e' => ht e'.symm)]
      exact (h.erase i).one
theorem Wt.none_ {ws : List Mv} (h : Wt ws) (h0 : 0 < ws.length) (hn : aheadI ws = none) : Wt (redM (spT, ws[0].1) ws) ∧ rdN (redM (spT, ws[0].1) ws) spT = 1 := by
  obtain ⟨f1, f2, f3⟩ := h.full hn
  have hm := List.getElem_mem h0
  have hp := isP_cases (h.to_ _ hm)
  have e : redM (spT, ws[0].1) ws = instM ws[0].1 spT ws := by
    unfold redM
    rw [if_neg]
    show ¬ isD ws[0].1 = true
    rw [hp.1]; decide
  obtain ⟨r1, r2, r3⟩ := instM_rdN ws[0].1 spT (fun e => hp.2 e.symm) ws
  have h1 : rdN (instM ws[0].1 spT ws) spT = 1 := by rw [r2, f3, f1 _ hm]
  rw [e]
  exact ⟨h.inst (fun e => hp.2 e.symm) (.inr rfl) (fun m hm => (isP_cases (h.to_ m hm)).2) (by omega), h1⟩
/-- the steps of an order -/
def ordF : Nat → List Mv → List Mv
  | 0, _ => []
  | _ + 1, [] => []
  | n + 1, x :: xs => match aheadI (x :: xs) with
    | some i => match (x :: xs)[i]? with
      | some m => m :: ordF n (redM m ((x :: xs).eraseIdx i))
      | none => []
    | none => (spT, x.1) :: ordF n (redM (spT, x.1) (x :: xs))
theorem ordF_nil (n : Nat) : ordF n [] = [] := by cases n <;> rfl
theorem ordF_some {n : Nat} {ws : List Mv} {i : Nat} (hi : i < ws.length) (h : aheadI ws = some i) : ordF (n + 1) ws = ws[i] :: ordF n (redM ws[i] (ws.eraseIdx i)) := by
  cases ws with
  | nil => simp at hi
  | cons x xs =>
    rw [ordF, h]
    simp only
    rw [List.getElem?_eq_getElem hi]
theorem ordF_none {n : Nat} {ws : List Mv} (h0 : 0 < ws.length) (h : aheadI ws = none) : ordF (n + 1) ws = (spT, ws[0].1) :: ordF n (redM (spT, ws[0].1) ws) := by
  cases ws with
  | nil => simp at h0
  | cons x xs =>
    rw [ordF, h]
    rfl
/-- what is left of an order takes fewer steps than this -/
def muW (ws : List Mv) : Nat := 2 * ws.length + if rdN ws spT = 0 then 1 else 0
theorem muW_some {ws : List Mv} {i : Nat} (hi : i < ws.length) (d : Mv) : muW (redM d (ws.eraseIdx i)) + 1 ≤ muW ws := by
  unfold muW
  rw [redM_len, List.length_eraseIdx_of_lt hi]
  split <;> split <;> omega
theorem muW_none {ws : List Mv} (h : Wt ws) (h0 : 0 < ws.length) (hn : aheadI ws = none) : muW (redM (spT, ws[0].1) ws) + 1 ≤ muW ws := by
  have h1 := (h.none_ h0 hn).2
  have h2 := (h.full hn).2.2
  unfold muW
  rw [redM_len, h1, h2]
  simp
/-- what is taken ahead, as long as there is such a move -/
def takF : Nat → List Mv → List Mv
  | 0, _ => []
  | n + 1, xs => match aheadI xs with
    | some i => match xs[i]? with
      | some m => m :: takF n (xs.eraseIdx i)
      | none => []
    | none => []
theorem takF_some {n : Nat} {ws : List Mv} {i : Nat} (hi : i < ws.length) (h : aheadI ws = some i) : takF (n + 1) ws = ws[i] :: takF n (ws.eraseIdx i) := by
  rw [takF, h]
  simp only
  rw [List.getElem?_eq_getElem hi]
theorem takF_none {n : Nat} {ws : List Mv} (h : aheadI ws = none) : takF n ws = [] := by
  cases n with
  | zero => rfl
  | succ n => rw [takF, h]
theorem takF_len : ∀ n ws, (takF n ws).length ≤ ws.length
  | 0, _ => Nat.zero_le _
  | n + 1, ws => by
    rw [takF]
    cases h : aheadI ws with
    | none => exact Nat.zero_le _
    | some i =>
      obtain ⟨hi, _⟩ := aheadI_some h
      simp only
      rw [List.getElem?_eq_getElem hi]
      have := takF_len n (ws.eraseIdx i)
      rw [List.length_eraseIdx_of_lt hi] at this
      simp only [List.length_cons]; omega
theorem ordF_len : ∀ n ws, (ordF n ws).length ≤ n
  | 0, _ => Nat.le_refl _
  | n + 1, [] => Nat.zero_le _
  | n + 1, x :: xs => by
    rw [ordF]
    split
    · split
      · have := ordF_len n; simp only [List.length_cons]; exact Nat.succ_le_succ (this _)
      · exact Nat.zero_le _
    · simp only [List.length_cons]; exact Nat.succ_le_succ (ordF_len n _)
theorem busyF_Wt {xs : List Mv} (h : MV xs) : Wt (busyF xs 9) := by
  have hl : busyF xs 9 = lsF (fun p => srcM xs (nm p)) 9 := rfl
  have hMV : MV (busyF xs 9) := by rw [hl]; exact lsF_MV (SVal_M h)
  refine ⟨hMV.2, fun m hm => ?_, fun m hm => ?_, fun m hm => ?_, ?_⟩
  · have := hMV.1 m hm
    unfold mok at this; rw [Bool.and_eq_true] at this; exact this.1
  · have := hMV.1 m hm
    unfold mok at this; rw [Bool.and_eq_true] at this
    have h2 := this.2
    unfold isS at h2; rw [Bool.or_eq_true] at h2
    exact h2.elim .inl (fun h => .inr (.inl h))
  · rw [hl] at hm
    obtain ⟨p, _, hne, e⟩ := lsF_mem hm
    rw [e]; exact fun e => hne e.symm
  · have : rdN (busyF xs 9) spT = 0 := by
      rw [rdN_zero]
      intro m hm e
      have := hMV.1 m hm
      unfold mok at this; rw [Bool.and_eq_true] at this
      have h2 := this.2
      rw [e] at h2
      revert h2; decide +kernel
    omega
/-- steps that do moves; moves in an order in which they can be done -/
def ordM (xs : List Mv) : List Mv := if mvalid xs then ordF 19 (busyF xs 9) else []
def takM (xs : List Mv) : List Mv := takF 9 (busyF xs 9)
def wspB (xs : List Mv) : Bool := mvalid xs && decide ((takM xs).length = (busyF xs 9).length)
def wspM (xs : List Mv) : List Mv := if wspB xs then takM xs else []
end Go.PM
namespace Go.PD
open Go.PM Go.RowKit Go.Lib
theorem containsAny_iff (chars : List UInt8) : ∀ s : List UInt8, containsAny s chars = s.any (fun c => decide (c ∈ chars))
  | [] => rfl
  | b :: l => by
    have ih := containsAny_iff chars l
    unfold containsAny at ih ⊢
    rw [List.any_cons, ← ih]
    have hge := indexAny_ge chars l
    have e : indexAny (b :: l) chars = if chars.contains b then 0 else if indexAny l chars == -1 then -1 else indexAny l chars + 1 := rfl
    have hc : chars.contains b = decide (b ∈ chars) := by rw [List.contains_eq_mem]
    rw [e, hc]
    clear e hc ih
    generalize indexAny l chars = z at *
    by_cases h : b ∈ chars
    · simp [h]
    · simp only [h, decide_false, Bool.false_eq_true, if_false, Bool.false_or]
      by_cases hm : z = -1
      · subst hm; rfl
      · rw [if_neg (by simpa using hm), decide_eq_decide]; omega
def arF (xs : List St) (free : List UInt8) : Bool := decide (free.length ≤ 2 ∧ free.Nodup) && free.all fun c => decide (c ∈ regsL) && decide (c ∉ snL xs)
theorem frOk_ar (xs : List St) (free : List UInt8) : frOk xs free = (svalid xs && arF xs free) := rfl
/-- the registers that stand in a text -/
def rgB (free : List UInt8) : ByteArray := pickB regsL (inTx regsL free) 6
theorem rg_mem (free : List UInt8) (c : UInt8) : c ∈ pickL regsL (inTx regsL free) 6 ↔ c ∈ regsL ∧ c ∈ free := by
  unfold pickL
  rw [List.mem_map]
  constructor
  · rintro ⟨p, hp, rfl⟩
    rw [List.mem_filter, List.mem_range] at hp
    have h2 := hp.2
    unfold inTx at h2
    rw [decide_eq_true_eq] at h2
    refine ⟨?_, h2⟩
    have hl : p < regsL.length := hp.1
    rw [List.getD_eq_getElem?_getD, List.getElem?_eq_getElem hl]
    exact List.getElem_mem hl
  · rintro ⟨h1, h2⟩
    obtain ⟨p, hp, rfl⟩ := List.getElem_of_mem h1
    refine ⟨p, ?_, ?_⟩
    · rw [List.mem_filter, List.mem_range]
      refine ⟨hp, ?_⟩
      unfold inTx
      rw [decide_eq_true_eq, List.getD_eq_getElem?_getD, List.getElem?_eq_getElem hp]
      exact h2
    · rw [List.getD_eq_getElem?_getD, List.getElem?_eq_getElem hp]; rfl
theorem rg_nodup (free : List UInt8) : (pickL regsL (inTx regsL free) 6).Nodup := by
  unfold pickL
  have h1 : ((List.range 6).map (regsL.getD · 0)).Nodup := by decide
  exact List.Nodup.sublist (List.Sublist.map _ List.filter_sublist) h1
theorem rg_size (free : List UInt8) : (rgB free).size = (pickL regsL (inTx regsL free) 6).length := by simp [rgB, pickB, ByteArray.size]
theorem rg_full (free : List UInt8) : (rgB free).size = free.length ↔ free.Nodup ∧ ∀ c ∈ free, c ∈ regsL := by
  rw [rg_size]
  have hs : ∀ c ∈ pickL regsL (inTx regsL free) 6, c ∈ free := fun c hc => ((rg_mem free c).1 hc).2
  constructor
  · intro h
    have hp := perm_of_sub _ _ (rg_nodup free) hs (by omega)
    exact ⟨hp.nodup_iff.1 (rg_nodup free), fun c hc => ((rg_mem free c).1 (hp.mem_iff.2 hc)).1⟩
  · rintro ⟨h1, h2⟩
    have a1 := nodup_le _ _ (rg_nodup free) hs
    have a2 := nodup_le _ _ h1 (fun c hc => (rg_mem free c).2 ⟨h2 c hc, hc⟩)
    omega
theorem ar_yes {xs : List St} {free : List UInt8} (h1 : (rgB free).size = free.length) (h2 : free.length ≤ 2) : arF xs free = !containsAny (snL xs) free := by
  obtain ⟨a1, a2⟩ := (rg_full free).1 h1
  unfold arF
  rw [decide_eq_true ⟨h2, a1⟩, Bool.true_and, containsAny_iff, Bool.eq_iff_iff, List.all_eq_true, Bool.not_eq_true', List.any_eq_false]
  constructor
  · intro h c hc hd
    have h3 := h c (by simpa using hd)
    rw [Bool.and_eq_true, decide_eq_true_eq, decide_eq_true_eq] at h3
    exact h3.2 hc
  · intro h c hc
    rw [Bool.and_eq_true, decide_eq_true_eq, decide_eq_true_eq]
    exact ⟨a2 c hc, fun hm => h c hm (by simpa using hc)⟩
theorem ar_no1 {xs : List St} {free : List UInt8} (h1 : (rgB free).size ≠ free.length) : arF xs free = false := by
  cases h : arF xs free with
  | false => rfl
  | true =>
    unfold arF at h
    rw [Bool.and_eq_true, decide_eq_true_eq, List.all_eq_true] at h
    refine absurd ((rg_full free).2 ⟨h.1.2, fun c hc => ?_⟩) h1
    have := h.2 c hc
    rw [Bool.and_eq_true, decide_eq_true_eq] at this
    exact this.1
theorem ar_no2 {xs : List St} {free : List UInt8} (h1 : ¬ free.length ≤ 2) : arF xs free = false := by
  unfold arF; rw [decide_eq_false (fun h => h1 h.1)]; rfl
theorem regs_ascii {c : UInt8} (h : c ∈ regsL) : c.toNat < 128 := by
  simp only [regsL, List.mem_cons, List.not_mem_nil, or_false] at h
  rcases h with rfl | rfl | rfl | rfl | rfl | rfl <;> decide
theorem cells_ascii {c : UInt8} (h : c ∈ cellsL) : c.toNat < 128 := by
  simp only [cellsL, List.mem_cons, List.not_mem_nil, or_false] at h
  rcases h with rfl | rfl | rfl | rfl | rfl | rfl | rfl | rfl | rfl | rfl | rfl <;> decide
theorem okC_ascii {a : ByteArray} (h : okC a = true) : ∀ c ∈ a.data.toList, c.toNat < 128 := by
  obtain ⟨d, rfl⟩ := one_of_size (okC_size h)
  intro c hc
  have : c = d := by simpa using hc
  subst this
  unfold okC at h
  rw [Bool.or_eq_true] at h
  rcases h with h | h
  · exact cells_ascii (by simpa [isC] using h)
  · have h2 : 48 ≤ c.toNat ∧ c.toNat ≤ 57 := by simpa [isD] using h
    omega
theorem isC_okC {a : ByteArray} (h : isC a = true) : okC a = true := by unfold okC; rw [h]; rfl
theorem ok_okC {x : St} (h : stOk x = true) : okC x.2.1 = true ∧ okC x.2.2 = true := by
  obtain ⟨k, a, b⟩ := x
  rcases stOk_kind h with rfl | rfl
  · exact ⟨isC_okC (stOk_move h).1, (stOk_move h).2⟩
  · exact ⟨isC_okC (stOk_swap h).1, isC_okC (stOk_swap h).2⟩
theorem nm_ascii {xs : List St} (h : svalid xs = true) : ∀ c ∈ snL xs, c.toNat < 128 := by
  intro c hc
  unfold snL at hc
  obtain ⟨x, hx, hc⟩ := List.mem_flatMap.1 hc
  have h2 := ok_okC (sv_mem h x hx)
  rw [snB, ByteArray.data_append, Array.toList_append, List.mem_append] at hc
  rcases hc with hc | hc
  · exact okC_ascii h2.1 c hc
  · exact okC_ascii h2.2 c hc
theorem free_ascii {free : List UInt8} (h1 : (rgB free).size = free.length) : ∀ c ∈ free, c.toNat < 128 := fun c hc => regs_ascii (((rg_full free).1 h1).2 c hc)
/-- names -/
theorem frN_size {free : List UInt8} {a : ByteArray} (h : a.size = 1) : (frN free a).size = 1 := by
  unfold frN
  split
  · rfl
  · split
    · rfl
    · exact h
theorem frN_t {free : List UInt8} (h : 0 < free.length) : frN free ⟨#[116]⟩ = ⟨#[free.getD 0 0]⟩ := if_pos ⟨rfl, h⟩
theorem frN_t0 {free : List UInt8} (h : ¬ 0 < free.length) : frN free ⟨#[116]⟩ = ⟨#[116]⟩ := by
  unfold frN
  rw [if_neg (fun h2 => h h2.2), if_neg (fun h2 => by have := h2.2; omega)]
theorem frN_u {free : List UInt8} (h : 1 < free.length) : frN free spU = ⟨#[free.getD 1 0]⟩ := by
  unfold frN
  rw [if_neg (fun h2 => by have := h2.1; revert this; decide), if_pos ⟨rfl, h⟩]
theorem frN_u0 {free : List UInt8} (h : ¬ 1 < free.length) : frN free spU = spU := by
  unfold frN
  rw [if_neg (fun h2 => by have := h2.1; revert this; decide), if_neg (fun h2 => h h2.2)]
theorem frN_other {free : List UInt8} {a : ByteArray} (h1 : a ≠ ⟨#[116]⟩) (h2 : a ≠ spU) : frN free a = a := by
  unfold frN
  rw [if_neg (fun h => h1 h.1), if_neg (fun h => h2 h.1)]
theorem frS_yes {xs : List St} {free : List UInt8} (h : frOk xs free = true) : frS xs free = xs.map (frX free) := if_pos h
theorem frS_no {xs : List St} {free : List UInt8} (h : frOk xs free = false) : frS xs free = [] := by unfold frS; rw [h]; rfl
end Go.PD
namespace Go.Proofs.YtnhncbhhlbcieaaGreat
open Go.RowKit Go.PM Go.PD Go.Lib
theorem areReg_c (s : ByteArray) (w : World) :
    Calls Tryz.prog 53 #[.string s] w fun e w' => e = .returned (.bool (decide (s.data.toList.Nodup ∧ ∀ c ∈ s.data.toList, c ∈ regsL))) ∧ w = w' := by
  have HPL : Hid (∀ W, Calls Tryz.prog 42 #[.string ⟨#[97, 98, 99, 100, 101, 102]⟩, .string s] W fun e w' => e = .returned (.string (rgB s.data.toList)) ∧ W = w') := fun W => namesIn_c ⟨#[97, 98, 99, 100, 101, 102]⟩ s (by decide) W
  have HD : Hid (decide (s.data.toList.Nodup ∧ ∀ c ∈ s.data.toList, c ∈ regsL) = decide ((rgB s.data.toList).size = s.size)) := by
    show _ = _
    rw [decide_eq_decide, ← rg_full, size_data]
  rw [HD.out]
  generalize rgB s.data.toList = rg at *
  by_cases h1 : rg.size = s.size
  · have t1 : ((rg.size : Int) == (s.size : Int)) = true := by simp [h1]
    rw [decide_eq_true h1]
    clear h1 HD
    go_enter Tryz.func53, Tryz.ntmps53
    go_wp2_with (go_at_call 42; refine (HPL.out _).mono ?_; rintro e w' ⟨rfl, rfl⟩)
    go_ret
    exact ⟨rfl, rfl⟩
  · have t1 : ((rg.size : Int) == (s.size : Int)) = false := by simp; omega
    rw [decide_eq_false h1]
    clear h1 HD
    go_enter Tryz.func53, Tryz.ntmps53
    go_wp2_with (go_at_call 42; refine (HPL.out _).mono ?_; rintro e w' ⟨rfl, rfl⟩)
    go_ret
    exact ⟨rfl, rfl⟩
end Go.Proofs.YtnhncbhhlbcieaaGreat
namespace Go.Proofs.YtnhncbhhlbcieaaGreat
open Go.RowKit Go.PM Go.PD Go.Lib

set_option maxHeartbeats 800000 in
theorem areFree_c (free : ByteArray) (xs : List St) (hv : svalid xs = true) (v : Value) (w : World) (hx : RdS w v xs) (hf : free.size ≤ 1048576) :
    Calls Tryz.prog 25 #[.string free, v] w fun e w' => e = .returned (.bool (arF xs free.data.toList)) ∧ Below w.heap.size w w' := by
  have hfl : free.data.toList.length = free.size := size_data free
  have HPL := Lib.hid (fun W => areReg_c free W)
  have HSN := Lib.hid (stepNames_c xs hv v w hx)
  have hlen := svalid_len hv
  have hns := snT_size hv xs.length
  rw [snT_full] at hns
  have hrg : (free.data.toList.Nodup ∧ ∀ c ∈ free.data.toList, c ∈ regsL) ↔ (rgB free.data.toList).size = free.size := by rw [← rg_full, hfl]
  by_cases h1 : (rgB free.data.toList).size = free.size
  · rw [decide_eq_true (hrg.2 h1)] at HPL
    by_cases h2 : free.size ≤ 2
    · have HY := Lib.hid (ar_yes (xs := xs) (free := free.data.toList) (by rw [h1, hfl]) (by omega))
      have HCA := Lib.hid (fun W => Tryz.strings_ContainsAny_laid (snT xs) free W (by omega) (by omega) (fun j b hb => nm_ascii hv b (by rw [← snT_list]; exact List.mem_of_getElem? hb)) (fun j b hb => free_ascii (by rw [h1, hfl]) b (List.mem_of_getElem? hb)))
      have t2 : (free.size : Int) ≤ 2 := by omega
      rw [snT_list] at HCA
      clear hv hfl h1 h2 hrg
      generalize snT xs = nt at *
      go_enter Tryz.func25, Tryz.ntmps25
      go_wp2_with (first | (go_at_call 53; refine (HPL.out _).mono ?_; rintro e w' ⟨rfl, rfl⟩) | (go_at_call 55; refine HSN.out.mono ?_; rintro e w2 ⟨rfl, hb2⟩) | (go_at_call 54; refine (HCA.out _).mono ?_; rintro e w3 ⟨rfl, hb3⟩))
      go_ret
      exact ⟨by rw [HY.out]; rfl, hb2.trans (hb3.mono hb2.size)⟩
    · have HN := Lib.hid (ar_no2 (xs := xs) (free := free.data.toList) (by omega))
      have t2 : ¬ (free.size : Int) ≤ 2 := by omega
      clear hv hfl h1 h2 hrg
      go_enter Tryz.func25, Tryz.ntmps25
      go_wp2_with (first | (go_at_call 53; refine (HPL.out _).mono ?_; rintro e w' ⟨rfl, rfl⟩))
      go_ret
      exact ⟨by rw [HN.out]; rfl, Below.refl _ _⟩
  · rw [decide_eq_false (fun h => h1 (hrg.1 h))] at HPL
    have HN := Lib.hid (ar_no1 (xs := xs) (free := free.data.toList) (by rw [hfl]; exact h1))
    clear hv hfl h1 hrg
    go_enter Tryz.func25, Tryz.ntmps25
    go_wp2_with (first | (go_at_call 53; refine (HPL.out _).mono ?_; rintro e w' ⟨rfl, rfl⟩))
    go_ret
    exact ⟨by rw [HN.out]; rfl, Below.refl _ _⟩
end Go.Proofs.YtnhncbhhlbcieaaGreat
namespace Go.Proofs.YtnhncbhhlbcieaaGreat
open Go.RowKit Go.PM Go.PD
attribute [local go_sem] Oper.semAt_some
end Go.Proofs.YtnhncbhhlbcieaaGreat
namespace Go.PD
open Go.PM Go.RowKit
theorem mkD_far (s : List St) (k : Nat) (hk : k < s.length) {x : St} (e : s[k] = x) (h : far x = true) : mkD (s.take (k + 1)) = (mkD (s.take k) ++ [(0, spU, x.2.2)]) ++ [(0, x.2.1, spU)] := by
  rw [mkD_take s k hk, e, two_far h]; simp
theorem mkD_near (s : List St) (k : Nat) (hk : k < s.length) {x : St} (e : s[k] = x) (h : far x = false) : mkD (s.take (k + 1)) = mkD (s.take k) ++ [x] := by
  rw [mkD_take s k hk, e, two_near h]
theorem grown_cellQ (W : World) (b i : Nat) (v : Value) : W.grownBy (W.setCell ⟨b, i, none⟩ v) (some b) :=
  ⟨rfl, rfl, rfl, by simp [World.size_setCell], fun k _ hne => heap_setCell_other W _ k v (fun e => hne (by rw [e]))⟩
end Go.PD
namespace Go.Proofs.YtnhncbhhlbcieaaGreat
open Go.RowKit Go.PM Go.PD
attribute [local go_sem] Oper.semAt_some

end Go.Proofs.YtnhncbhhlbcieaaGreat
namespace Go.Proofs.YtnhncbhhlbcieaaGreat
open Go.RowKit Go.PM Go.PD Go.Lib
attribute [local go_sem] Oper.semAt_some

set_option maxRecDepth 100000 in
set_option maxHeartbeats 2000000 in
theorem l8Direct_c (xs : List St) (v : Value) (w : World) (hx : RdS w v xs) (hn' : xs.length ≤ 1048576) :
    Calls Tryz.prog 49 #[v] w fun e w' => ∃ v', e = .returned v' ∧ w'.ownsRow w.heap.size 58 3 v' (mkD xs).length (scells (mkD xs)) ∧ Below w.heap.size w w' := by
  have hE := World.ownsRow_lit (e := 58) (base := w.heap.size) (size := 3) w #[] 0 (Nat.le_refl _) (Nat.zero_le _) rfl
  have hB0 : Below w.heap.size w (w.alloc (.cells #[] 58)) := (Below.refl _ _).alloc (Nat.le_refl _) _
  obtain ⟨A, cap, rfl, hn, hc, hcell⟩ := hx.open
  have HLN := Lib.hid (fun k => mkD_takeLen xs k)
  have HFR := Lib.hid (fun k hk {x} e h => mkD_far xs k hk (x := x) e h)
  have HNR := Lib.hid (fun k hk {x} e h => mkD_near xs k hk (x := x) e h)
  have H0 : Hid (mkD (xs.take 0) = []) := rfl
  have HFULL : Hid (mkD (xs.take xs.length) = mkD xs) := by show _ = _; rw [List.take_length]
  have HMV := Lib.hid (fun a b W => l8Move_c a b W)
  clear hx
  go_enter Tryz.func49, Tryz.ntmps49
  go_wp2
  go_loopw [3, 5, 9] (fun o _ i wr => ∃ (k : Nat), k ≤ xs.length ∧ i = .int .i64 k ∧ wr.ownsRow w.heap.size 58 3 o (mkD (xs.take k)).length (scells (mkD (xs.take k))) ∧ Below w.heap.size w wr) (fun _ _ i _ => xs.length - (RowKit.intOf i).toNat)
  case atStart => exact ⟨0, by omega, rfl, by rw [H0.out]; exact hE, hB0⟩
  case round =>
    clear hE hB0
    obtain ⟨k, hk, rfl, ho, hb⟩ := hrel
    have hbs := hb.size
    by_cases hlt : k < xs.length
    · obtain ⟨b, off, rfl, hbl, hc1, hc2, hc3⟩ := hcell k hlt
      have hd1 := (hb.cell (p := ⟨b, off + k * 3, none⟩) hbl).trans hc1
      have hd2 := (hb.cell (p := ⟨b, off + k * 3 + 1, none⟩) hbl).trans hc2
      have hd3 := (hb.cell (p := ⟨b, off + k * 3 + 2, none⟩) hbl).trans hc3
      clear hc1 hc2 hc3 hcell
      have HE : Hid (xs[k] = (xs[k].1, xs[k].2.1, xs[k].2.2)) := rfl
      have hln := HLN.out k
      have HF := Lib.hid (fun h => HFR.out k hlt HE.out h)
      have HN := Lib.hid (fun h => HNR.out k hlt HE.out h)
      have HD := Lib.hid (fun W => l8Far_c xs[k].1 xs[k].2.1 xs[k].2.2 W)
      generalize xs[k].1 = x1 at *
      generalize xs[k].2.1 = x2 at *
      generalize xs[k].2.2 = x3 at *
      have hA1 : At (wr.alloc (.cells #[.int .i64 x1, .string x2, .string x3] 58)) wr.heap.size 58 #[.int .i64 x1, .string x2, .string x3] := At.new _ _ _
      have hB1 : Below wr.heap.size wr (wr.alloc (.cells #[.int .i64 x1, .string x2, .string x3] 58)) := (Below.refl _ _).alloc (Nat.le_refl _) _
      generalize hf : far (x1, x2, x3) = f at *
      cases f with
      | true =>
        have HFF := Lib.hid (HF.out rfl)
        clear HF HN hf
        go_wp2_with fail
        refine (HD.out _).mono ?_
        rintro e w2 ⟨rfl, hb2⟩
        have hN2 := hA1.keep hb2
        have hB2 := hB1.trans (hb2.mono hB1.size)
        have hb3 := hb.trans (hB2.mono hbs)
        have ho2 := own_keep ho hB2
        clear hA1 hB1 hb2 hB2 hb ho hd1 hd2 hd3
        have hl2 := hN2.lt
        have hs3 := hb3.size
        go_wp2
        have q1 : ∀ x : Ext w2.heap.size w2.drew, x.val.cell? ⟨wr.heap.size, 1, none⟩ = some (.string x2) := fun x => (x.property.cell (p := ⟨wr.heap.size, 1, none⟩) hl2).trans (hN2.cell 1)
        have q2 : ∀ x : Ext w2.heap.size w2.drew, x.val.cell? ⟨wr.heap.size, 2, none⟩ = some (.string x3) := fun x => (x.property.cell (p := ⟨wr.heap.size, 2, none⟩) hl2).trans (hN2.cell 2)
        have hM1 : ∀ x : Ext w2.heap.size w2.drew, Calls Tryz.prog 68 #[.string spU, .string x3] x.val fun e w' => e = .returned (.agg #[.int .i64 0, .string spU, .string x3]) ∧ Below x.val.heap.size x.val w' := fun x => HMV.out _ _ _
        have hM2 : ∀ x : Ext w2.heap.size w2.drew, Calls Tryz.prog 68 #[.string x2, .string spU] x.val fun e w' => e = .returned (.agg #[.int .i64 0, .string x2, .string spU]) ∧ Below x.val.heap.size x.val w' := fun x => HMV.out _ _ _
        refine region_late_wide (m := 1) (C := fun w' => ∃ x : Ext w2.heap.size w2.drew, w' = x.val) (D := fun _ => True) 9 (by kernel_rfl) (by kernel_rfl) _ _ (by rfl) (by rfl) (by rfl) u3 (by intro _ _ _ h; exact h) (yieldsD_move (by rfl) _ (by rfl) u3 (by rfl)) (fun _ _ => trivial) ⟨⟨_, Below.refl _ _⟩, rfl⟩ ?_
        simp only [List.take_succ_cons, List.take_zero, List.drop_succ_cons, List.drop_zero, Nat.reduceSub, Nat.reduceAdd]
        simp only [Act.put, List.setIfInBounds_toArray, List.set_cons_succ, List.set_cons_zero]
        gi_big_quiet_step (fail)
        gi_big_quiet_step (fail)
        gi_big_quiet_step (fail)
        (refine BigFrame.wpQuietIn_want (fun _ _ _ _ => trivial) rfl (fun K hK => ?_); gi_big_quiet_op; refine ⟨_, fun _ => callsIn_wide.2 (ext_call _ (Nat.le_refl _) (hM1 _)), hK _ ?_⟩; clear hK K)
        gi_big_quiet_step (fail)
        gi_big_quiet_step (fail)
        gi_big_quiet_step (fail)
        (refine BigFrame.wpQuietIn_want (fun _ _ _ _ => trivial) rfl (fun K hK => ?_); gi_big_quiet_op; refine ⟨_, fun _ => callsIn_wide.2 (ext_call _ (Nat.le_refl _) (hM2 _)), hK _ ?_⟩; clear hK K)
        refine wpQuietIn_nil ?_
        intro w3 hw3 K hK
        obtain ⟨xw, hxw⟩ := hw3
        have hbw : Below w2.heap.size w2 w3 := by rw [hxw]; exact (Below.refl _ _).drew.trans xw.property
        clear hxw xw q1 q2 hM1 hM2
        have ho3 := own_keep ho2 hbw
        have hb4 := hb3.trans (hbw.mono hs3)
        have hs4 := hb4.size
        refine sliceIn_st2 (.tmp 19) (.tmp 23) rfl 0 0 spU x3 x2 spU (by rfl) (by rfl) ?_
        refine hK _ _ trivial ?_
        clear hK K
        simp only [Act.put, List.setIfInBounds_toArray, List.set_cons_succ, List.set_cons_zero]
        have hnw := cells_new w3 #[.int .i64 0, .string spU, .string x3, .int .i64 0, .string x2, .string spU] 58
        refine listIn_sts rfl (.tmp 15) (.tmp 24) rfl w.heap.size u3 (mkD (xs.take k)) [(0, spU, x3), (0, x2, spU)] ⟨w3.heap.size, 0, none⟩ 2 2 rfl (by decide) (by rfl) (by rfl) (own_keep ho3 ((Below.refl _ _).alloc (Nat.le_refl _) _)) hnw (by simp; omega) (by simp; omega) ?_
        intro v' w4 hown4 hgrow4
        have hb5 := (hb4.alloc hs4 (.cells #[.int .i64 0, .string spU, .string x3, .int .i64 0, .string x2, .string spU] 58)).trans (below_grown hgrow4 (B := w.heap.size) (by simp; omega) (own_block_ge ho3))
        have hown5 : w4.ownsRow w.heap.size 58 3 v' (mkD (xs.take (k + 1))).length (scells (mkD (xs.take (k + 1)))) := by
          rw [HFF.out, List.append_assoc]; exact hown4
        clear hown4 hgrow4 hnw ho3 ho2 hb4 hb3 hbw
        gi_wp2
        go_wp2
        go_roundw
        case rel => exact ⟨k + 1, by omega, by go_num, hown5, hb5⟩
        case measure => simp [RowKit.intOf]; omega
      | false =>
        have HNN := Lib.hid (HN.out rfl)
        clear HF HN hf
        go_wp2_with fail
        refine (HD.out _).mono ?_
        rintro e w2 ⟨rfl, hb2⟩
        have hN2 := hA1.keep hb2
        have hB2 := hB1.trans (hb2.mono hB1.size)
        have hb3 := hb.trans (hB2.mono hbs)
        have ho2 := own_keep ho hB2
        clear hA1 hB1 hb2 hB2 hb ho hd1 hd2 hd3
        have hs3 := hb3.size
        have c0 : w2.cell? ⟨wr.heap.size, 0, none⟩ = some (.int .i64 x1) := hN2.cell 0
        have c1 : w2.cell? ⟨wr.heap.size, 1, none⟩ = some (.string x2) := hN2.cell 1
        have c2 : w2.cell? ⟨wr.heap.size, 2, none⟩ = some (.string x3) := hN2.cell 2
        have hnw := cells_new w2 #[.int .i64 x1, .string x2, .string x3] 58
        go_wp2_with (at_builtin; refine held ?_)
        unfold Held
        refine app_sts rfl (.tmp 26) (.tmp 28) rfl w.heap.size u3 (mkD (xs.take k)) [(x1, x2, x3)] ⟨w2.heap.size, 0, none⟩ 1 1 rfl (by decide) (by rfl) (by rfl) (own_keep ho2 ((Below.refl _ _).alloc (Nat.le_refl _) _)) hnw (by simp; omega) (by simp; omega) ?_
        intro v' w4 hown4 hgrow4
        have hb5 := (hb3.alloc hs3 (.cells #[.int .i64 x1, .string x2, .string x3] 58)).trans (below_grown hgrow4 (B := w.heap.size) (by simp; omega) (own_block_ge ho2))
        have hown5 : w4.ownsRow w.heap.size 58 3 v' (mkD (xs.take (k + 1))).length (scells (mkD (xs.take (k + 1)))) := by
          rw [HNN.out]; exact hown4
        clear hown4 hgrow4 hnw ho2 hb3 c0 c1 c2 hN2
        go_wp2
        go_roundw
        case rel => exact ⟨k + 1, by omega, by go_num, hown5, hb5⟩
        case measure => simp [RowKit.intOf]; omega
    · have hk' : k = xs.length := by omega
      have ho2 := ho
      rw [hk', HFULL.out] at ho2
      clear hcell ho
      go_wp2
      go_ret
      exact ⟨_, rfl, ho2, hb⟩
end Go.Proofs.YtnhncbhhlbcieaaGreat
namespace Go.PD
open Go.PM Go.RowKit
theorem noswF {xs : List St} (h : xs.any swF = false) : ∀ x ∈ xs, swF x = false := fun x hx => by
  have := List.any_eq_false.1 h x hx
  simpa using this
theorem md_kind {xs : List St} (hv : svalid xs = true) (h : xs.any swF = false) : ∀ k (hk : k < xs.length), far xs[k] = true → xs[k].1 = 0 := fun k hk hf =>
  far_kind (svalid_at hv k hk) (noswF h _ (List.getElem_mem hk)) hf
end Go.PD
namespace Go.Proofs.YtnhncbhhlbcieaaGreat
open Go.RowKit Go.PM Go.PD Go.Lib

end Go.Proofs.YtnhncbhhlbcieaaGreat
namespace Go.PM
open Go.RowKit
/-- the table with the sources of the first k places in it -/
def mix (f : Nat → ByteArray) (k : Nat) : Nat → ByteArray := fun q => if q < k then srcT f q else f q
theorem mix_zero (f : Nat → ByteArray) : mix f 0 = f := by funext q; simp [mix]
theorem mix_at (f : Nat → ByteArray) (k : Nat) : srcT (mix f k) k = srcT f k := by simp [srcT, mix]
theorem mix_set (f : Nat → ByteArray) (k : Nat) (hk : k < 9) : (tabA (mix f k)).setIfInBounds k (.string (srcT f k)) = tabA (mix f (k + 1)) := by
  have h := tabC_set (mix f k) k hk (srcT f k)
  have e : (fun q => if q = k then srcT f k else mix f k q) = mix f (k + 1) := by
    funext q
    by_cases hq : q = k
    · subst hq; simp [mix]
    · by_cases h2 : q < k
      · simp [mix, hq, h2, Nat.lt_succ_of_lt h2]
      · have : ¬ q < k + 1 := by omega
        simp [mix, hq, h2, this]
  rw [e] at h
  exact h
end Go.PM
namespace Go.Proofs.YtnhncbhhlbcieaaGreat
open Go.RowKit Go.PM
attribute [local go_sem] Oper.semAt_some

end Go.Proofs.YtnhncbhhlbcieaaGreat
namespace Go.Proofs.YtnhncbhhlbcieaaGreat
open Go.RowKit Go.PM

set_option maxRecDepth 100000 in
set_option maxHeartbeats 1000000 in
theorem l1Busy_c (xs : List Mv) (v : Value) (w : World) (hx : RdM w v xs) :
    Calls Tryz.prog 78 #[v] w fun e w' => ∃ v', e = .returned v' ∧ w'.ownsRow w.heap.size 56 2 v' (busyF xs 9).length (mcells (busyF xs 9)) ∧ Below w.heap.size w w' := by
  have HN : Hid (∀ q, q < 9 → (ByteArray.mk #[97, 98, 99, 100, 101, 102, 65, 66, 67]).extract q (q+1) = nm q) := by
    show ∀ q, _
    intro q hq
    match q, hq with
    | 0, _ | 1, _ | 2, _ | 3, _ | 4, _ | 5, _ | 6, _ | 7, _ | 8, _ => decide +kernel
  have HS := Lib.hid (fun W (hW : RdM W v xs) (p : Nat) => l1Source_c xs v (nm p) W hW)
  have HX := Lib.hid (fun W (hW : Below w.heap.size w W) => hx.below hW)
  have hE := World.ownsRow_lit (e := 56) (base := w.heap.size) (size := 2) w #[] 0 (Nat.le_refl _) (Nat.zero_le _) rfl
  go_enter Tryz.func78, Tryz.ntmps78
  go_wp2
  go_loopw [3, 8] (fun o i wr => ∃ (k : Nat), k ≤ 9 ∧ i = .int .i64 k ∧ wr.ownsRow w.heap.size 56 2 o (busyF xs k).length (mcells (busyF xs k)) ∧ Below w.heap.size w wr) (fun _ i _ => 9 - (intOf i).toNat)
  case atStart => exact ⟨0, by omega, rfl, hE, by (repeat' (first | (with_reducible exact Below.refl _ _) | (with_reducible assumption) | (with_reducible refine Below.alloc ?_ ?_ _) | (with_reducible refine Below.drew ?_) | (with_reducible refine Below.setCell ?_ ?_ _) | (with_reducible exact Nat.le_refl _) | omega | ((repeat (first | rewrite [World.size_alloc] | rewrite [World.size_setCell] | rewrite [World.size_drew])); omega) | (simp; omega) | (simp; done)))⟩
  case round =>
    obtain ⟨k, hk, rfl, ho, hb⟩ := hrel
    have hbs := hb.size
    by_cases hlt : k < 9
    · have hex := HN.out k hlt
      have hxr := HX.out wr hb
      have HY := Lib.hid (busyF_yes xs k)
      have HZ := Lib.hid (busyF_no xs k)
      have HH := Lib.hid (show busyH xs k = decide (srcM xs (nm k) ≠ nm k) from rfl)
      have hle := busyF_len xs k
      have hcall := HS.out wr hxr k
      have HC := Lib.hid hcall
      clear hcall
      generalize srcM xs (nm k) = sk at *
      generalize nm k = q at *
      go_wp2_with fail
      refine HC.out.mono ?_
      rintro e w2 ⟨rfl, hb2⟩
      have hb2s := hb2.size
      have ho2 := own_keep ho hb2
      have hbw := hb.trans (hb2.mono hbs)
      have hbws := hbw.size
      have hnw := two_new w2 (.string q) (.string sk) 56
      go_wp2_with (at_builtin; refine app_mv rfl (.tmp 21) (.tmp 25) rfl w.heap.size u3 (busyF xs k) (q, sk) ⟨w2.heap.size, 0, none⟩ 1 (by rfl) (by rfl) ?hown ?hnew ?hlen ?hbase ?_; rotate_left 4; intro v' w3 hown3 hgrow3)
      case hown => exact own_keep ho2 ((Below.refl _ _).alloc (Nat.le_refl _) _)
      try case hnew => exact hnw
      case hlen => omega
      case hbase => simp; omega
      · have h : (!(sk.toList == q.toList)) = true := by assumption
        rw [bne_str] at h
        have hb3 := below_grown hgrow3 (B := w.heap.size) (by simp; omega) (own_block_ge ho)
        go_roundw
        case rel =>
          refine ⟨k + 1, by omega, by go_num, ?_, ?_⟩
          · rw [HY.out (by rw [HH.out]; exact h)]; exact hown3
          · exact Below.trans (by (repeat' (first | (with_reducible exact Below.refl _ _) | (with_reducible assumption) | (with_reducible refine Below.alloc ?_ ?_ _) | (with_reducible refine Below.drew ?_) | (with_reducible refine Below.setCell ?_ ?_ _) | (with_reducible exact Nat.le_refl _) | omega | ((repeat (first | rewrite [World.size_alloc] | rewrite [World.size_setCell] | rewrite [World.size_drew])); omega) | (simp; omega) | (simp; done)))) hb3
        case measure => simp [intOf]; omega
      · have h : (!(sk.toList == q.toList)) = false := by assumption
        rw [bne_str] at h
        go_roundw
        case rel =>
          refine ⟨k + 1, by omega, by go_num, ?_, by (repeat' (first | (with_reducible exact Below.refl _ _) | (with_reducible assumption) | (with_reducible refine Below.alloc ?_ ?_ _) | (with_reducible refine Below.drew ?_) | (with_reducible refine Below.setCell ?_ ?_ _) | (with_reducible exact Nat.le_refl _) | omega | ((repeat (first | rewrite [World.size_alloc] | rewrite [World.size_setCell] | rewrite [World.size_drew])); omega) | (simp; omega) | (simp; done)))⟩
          rw [HZ.out (by rw [HH.out]; exact h)]; exact ho2
        case measure => simp [intOf]; omega
    · have hk9 : k = 9 := by omega
      subst hk9
      go_wp2
      go_ret
      exact ⟨_, rfl, ho, hb⟩

def countI (xs : List Mv) : Int := if mvalid xs then ((busyF xs 9).length : Int) else -1
end Go.Proofs.YtnhncbhhlbcieaaGreat
namespace Go.PM
open Go.RowKit
def leafH (f : Nat → ByteArray) (p : Nat) : Bool := decide (srcT f p ≠ nm p) && decide (namesW (rdH f (nm p)) = emp)
def leafM (xs : List Mv) (m : Mv) : Bool := decide (namesW (rsH xs m.1) = emp)
def lvB (xs : List Mv) (ms : List Mv) : ByteArray := ⟨((ms.filter (leafM xs)).flatMap fun m => m.1.data.toList).toArray⟩
theorem lvB_yes (xs ms : List Mv) (m : Mv) (h : leafM xs m = true) : lvB xs (ms ++ [m]) = lvB xs ms ++ m.1 := by
  apply ByteArray.ext
  rw [ByteArray.data_append]
  simp [lvB, h]
theorem lvB_no (xs ms : List Mv) (m : Mv) (h : leafM xs m = false) : lvB xs (ms ++ [m]) = lvB xs ms := by
  simp [lvB, h]
def leavesB (xs : List Mv) : ByteArray := namesW (leafH (tabOf xs))
theorem lvB_all {xs : List Mv} (h : MV xs) : lvB xs (busyF xs 9) = leavesB xs := by
  unfold lvB leavesB namesW namesL busyF
  rw [List.filter_map, List.flatMap_map, List.filter_filter]
  have e1 : ((List.range 9).filter fun p => (leafM xs ∘ fun p => (nm p, srcM xs (nm p))) p && busyH xs p) = (List.range 9).filter (leafH (tabOf xs)) := by
    refine List.filter_congr fun p hp => ?_
    have hp9 : p < 9 := by simpa using hp
    show (leafM xs (nm p, srcM xs (nm p)) && busyH xs p) = leafH (tabOf xs) p
    unfold leafM leafH busyH
    rw [rsH_rdH h, srcM_nm h hp9, Bool.and_comm]
  rw [e1]
  have e2 : ∀ l : List Nat, (l.flatMap fun a => (nm a, srcM xs (nm a)).1.data.toList) = l.map (placesL.getD · 0) := by
    intro l
    induction l with
    | nil => rfl
    | cons a l ih => rw [List.flatMap_cons, ih]; rfl
  rw [e2]
theorem emp_iff (s : ByteArray) : s.toList.isEmpty = decide (s = emp) := by
  rw [ByteArray.toList_eq]
  by_cases h : s = emp
  · subst h; simp
  · cases hl : s.data.toList with
    | nil => exact absurd (Go.WideShapes.bytes_inj (by rw [hl])) h
    | cons a l => simp [h]
theorem busyF_one (xs : List Mv) (k : Nat) (hk : k < (busyF xs 9).length) : (busyF xs 9)[k].1.size = 1 := by
  have := List.getElem_mem hk
  unfold busyF at this
  obtain ⟨p, _, e⟩ := List.mem_map.1 this
  have : (busyF xs 9)[k].1 = nm p := by
    have : (busyF xs 9)[k] = (nm p, srcM xs (nm p)) := e.symm
    rw [this]
  rw [this]; rfl
end Go.PM
namespace Go.Proofs.YtnhncbhhlbcieaaGreat
open Go.RowKit Go.PM

end Go.Proofs.YtnhncbhhlbcieaaGreat
namespace Go.PM
open Go.RowKit
theorem namesW_emp {h : Nat → Bool} : namesW h = emp ↔ ∀ p, p < 9 → h p = false := by
  have e : namesW h = emp ↔ (List.range 9).filter h = [] := by
    constructor
    · intro e
      have := congrArg (fun s => s.data.toList.length) e
      simp only [namesW, namesL, List.length_map] at this
      exact List.length_eq_zero_iff.1 this
    · intro e
      rw [namesW, namesL, e]; rfl
  rw [e, List.filter_eq_nil_iff]
  constructor
  · intro g p hp; simpa using g p (by simpa using hp)
  · intro g p hp; simpa using g p (by simpa using hp)
theorem namesW_one {p0 : Nat} (h0 : p0 < 9) : namesW (fun p => decide (p = p0)) = nm p0 := by
  match p0, h0 with
  | 0, _ | 1, _ | 2, _ | 3, _ | 4, _ | 5, _ | 6, _ | 7, _ | 8, _ => decide +kernel
/-- each place is the source of one -/
def Exch (S : Nat → ByteArray) : Prop := ∀ q, q < 9 → ∃ p, p < 9 ∧ S p = nm q
theorem leaf_exch (f : Nat → ByteArray) : namesW (leafH f) = emp ↔ Exch (srcT f) := by
  rw [namesW_emp]
  constructor
  · intro h q hq
    have h1 := h q hq
    unfold leafH at h1
    by_cases h2 : srcT f q = nm q
    · exact ⟨q, hq, h2⟩
    · have h3 : ¬ namesW (rdH f (nm q)) = emp := by simpa [h2] using h1
      rw [namesW_emp] at h3
      obtain ⟨p, h4⟩ := Classical.not_forall.1 h3
      obtain ⟨hp, h5⟩ := Classical.not_imp.1 h4
      have h6 : rdH f (nm q) p = true := by simpa using h5
      unfold rdH at h6
      rw [Bool.and_eq_true] at h6
      exact ⟨p, hp, by simpa using h6.2⟩
  · intro h q hq
    obtain ⟨p, hp, e⟩ := h q hq
    unfold leafH
    by_cases h2 : srcT f q = nm q
    · simp [h2]
    · have hne : nm p ≠ nm q := fun e2 => by
        have := nm_inj hp hq e2
        subst this; exact h2 e
      have : namesW (rdH f (nm q)) ≠ emp := fun h3 => by
        have := namesW_emp.1 h3 p hp
        unfold rdH at this
        simp [hne, e] at this
      simp [this]
theorem Exch.congr {S T : Nat → ByteArray} (h : ∀ p, p < 9 → S p = T p) (e : Exch S) : Exch T := fun q hq => by
  obtain ⟨p, hp, e1⟩ := e q hq
  exact ⟨p, hp, (h p hp).symm.trans e1⟩
theorem exch_drop {S : Nat → ByteArray} {p' : Nat} (hp' : p' < 9) (h : ∀ q, q < 9 → ∃ p, p < 9 ∧ p ≠ p' ∧ S p = nm q) : False := by
  have n1 : ((List.range 9).map nm).Nodup := by decide +kernel
  have h1 := nodup_le ((List.range 9).map nm) (((List.range 9).erase p').map S) n1 (fun a ha => by
    obtain ⟨q, hq, rfl⟩ := List.mem_map.1 ha
    obtain ⟨p, hp, hne, e⟩ := h q (by simpa using hq)
    exact List.mem_map.2 ⟨p, (List.mem_erase_of_ne hne).2 (by simpa using hp), e⟩)
  have h2 := List.length_erase_of_mem (show p' ∈ List.range 9 by simpa using hp')
  simp only [List.length_map, List.length_range] at h1 h2
  omega
theorem Exch.inj {S : Nat → ByteArray} (h : Exch S) {p p' : Nat} (hp : p < 9) (hp' : p' < 9) (e : S p = S p') : p = p' := by
  rcases Nat.decEq p p' with hne | he
  · exfalso
    refine exch_drop (S := S) hp' fun q hq => ?_
    obtain ⟨r, hr, e1⟩ := h q hq
    by_cases h1 : r = p'
    · subst h1; exact ⟨p, hp, hne, e.trans e1⟩
    · exact ⟨r, hr, h1, e1⟩
  · exact he
theorem Exch.place {S : Nat → ByteArray} (h : Exch S) {p : Nat} (hp : p < 9) : isP (S p) = true := by
  rcases Bool.eq_false_or_eq_true (isP (S p)) with h1 | h1
  · exact h1
  · exfalso
    refine exch_drop (S := S) hp fun q hq => ?_
    obtain ⟨r, hr, e1⟩ := h q hq
    refine ⟨r, hr, fun e => ?_, e1⟩
    subst e
    rw [e1, isP_nm hq] at h1
    cases h1
/-- the place that has q as its source -/
def invI (S : Nat → ByteArray) (q : Nat) : Nat := ((List.range 9).find? fun p => decide (S p = nm q)).getD 0
def invF (S : Nat → ByteArray) (q : Nat) : ByteArray := nm (invI S q)
theorem Exch.inv {S : Nat → ByteArray} (h : Exch S) {q : Nat} (hq : q < 9) : invI S q < 9 ∧ S (invI S q) = nm q := by
  obtain ⟨p, hp, e⟩ := h q hq
  unfold invI
  cases hf : (List.range 9).find? (fun p => decide (S p = nm q)) with
  | none => exact absurd (List.find?_eq_none.1 hf p (by simpa using hp)) (by simp [e])
  | some r =>
    have h1 := List.find?_some hf
    have h2 := List.mem_of_find?_eq_some hf
    exact ⟨by simpa using h2, by simpa using h1⟩
theorem Exch.inv_iff {S : Nat → ByteArray} (h : Exch S) {q p : Nat} (hq : q < 9) (hp : p < 9) : S p = nm q ↔ p = invI S q := by
  have h1 := h.inv hq
  exact ⟨fun e => h.inj hp h1.1 (e.trans h1.2.symm), fun e => by rw [e]; exact h1.2⟩
theorem invI_congr {S T : Nat → ByteArray} (h : ∀ p, p < 9 → S p = T p) (q : Nat) : invI S q = invI T q := by
  have key : ∀ l : List Nat, (∀ p ∈ l, p < 9) → l.find? (fun p => decide (S p = nm q)) = l.find? (fun p => decide (T p = nm q)) := by
    intro l
    induction l with
    | nil => intro _; rfl
    | cons a l ih =>
      intro hl
      rw [List.find?_cons, List.find?_cons, h a (hl a (by simp)), ih (fun p hp => hl p (by simp [hp]))]
  unfold invI
  rw [key _ (fun p hp => by simpa using hp)]

/-- impl's table of what gives all back, of the first k places -/
def bkF (f : Nat → ByteArray) : Nat → Nat → ByteArray
  | 0 => fun _ => emp
  | k + 1 => upd (bkF f k) (pidx (srcT f k)) (nm k)
theorem bkF_at {f : Nat → ByteArray} (h : Exch (srcT f)) : ∀ k, k ≤ 9 → ∀ p, p < k → bkF f k (pidx (srcT f p)) = nm p := by
  intro k
  induction k with
  | zero => intro _ p hp; omega
  | succ k ih =>
    intro hk p hp
    show upd (bkF f k) (pidx (srcT f k)) (nm k) (pidx (srcT f p)) = nm p
    unfold upd
    by_cases e : pidx (srcT f p) = pidx (srcT f k)
    · rw [if_pos e]
      have h1 := pidx_spec (h.place (p := p) (by omega))
      have h2 := pidx_spec (h.place (p := k) (by omega))
      have : srcT f p = srcT f k := by rw [← h1.2, ← h2.2, e]
      rw [h.inj (by omega) (by omega) this]
    · rw [if_neg e]
      rcases Nat.lt_or_ge p k with h1 | h1
      · exact ih (by omega) p h1
      · have : p = k := by omega
        subst this; exact absurd rfl e
theorem bkF_inv {f : Nat → ByteArray} (h : Exch (srcT f)) {q : Nat} (hq : q < 9) : srcT (bkF f 9) q = invF (srcT f) q := by
  have h1 := h.inv hq
  have h2 := bkF_at h 9 (Nat.le_refl _) _ h1.1
  rw [h1.2, pidx_nm hq] at h2
  show (if bkF f 9 q = emp then nm q else bkF f 9 q) = _
  rw [h2, if_neg (nm_ne _)]; rfl
/-- spec's list of readers, of the first k places -/
def unH (xs : List Mv) (q : Nat) : Bool := decide (namesW (rsH xs (nm q)) ≠ emp)
def unL (xs : List Mv) (k : Nat) : List Mv := ((List.range k).filter (unH xs)).map fun q => (nm q, namesW (rsH xs (nm q)))
theorem unL_yes (xs : List Mv) (k : Nat) (h : unH xs k = true) : unL xs (k + 1) = unL xs k ++ [(nm k, namesW (rsH xs (nm k)))] := by
  simp [unL, List.range_succ, h]
theorem unL_no (xs : List Mv) (k : Nat) (h : unH xs k = false) : unL xs (k + 1) = unL xs k := by
  simp [unL, List.range_succ, h]
theorem unL_len (xs : List Mv) (k : Nat) : (unL xs k).length ≤ k := by
  unfold unL
  rw [List.length_map]
  have := List.length_filter_le (unH xs) (List.range k)
  simpa using this
theorem rs_inv {xs : List Mv} (h : Exch fun p => srcM xs (nm p)) {q : Nat} (hq : q < 9) :
    namesW (rsH xs (nm q)) = if invI (fun p => srcM xs (nm p)) q = q then emp else invF (fun p => srcM xs (nm p)) q := by
  have h1 := h.inv hq
  have e : ∀ p, p < 9 → rsH xs (nm q) p = (decide (p ≠ q) && decide (p = invI (fun p => srcM xs (nm p)) q)) := fun p hp => by
    unfold rsH
    congr 1
    · exact decide_eq_decide.2 ⟨fun hne e => hne (by rw [e]), fun hne e => hne (nm_inj hp hq e)⟩
    · exact decide_eq_decide.2 (h.inv_iff hq hp)
  rw [namesW_congr e]
  by_cases h2 : invI (fun p => srcM xs (nm p)) q = q
  · rw [if_pos h2, h2]
    refine namesW_emp.2 fun p _ => ?_
    by_cases h3 : p = q <;> simp [h3]
  · rw [if_neg h2]
    refine (namesW_congr (g := fun p => decide (p = invI (fun p => srcM xs (nm p)) q)) fun p _ => ?_).trans (namesW_one h1.1)
    by_cases h3 : p = invI (fun p => srcM xs (nm p)) q
    · rw [h3]; simp [h2]
    · simp [h3]
theorem unL_inv {xs : List Mv} (h : Exch fun p => srcM xs (nm p)) : unL xs 9 = lsF (invF fun p => srcM xs (nm p)) 9 := by
  have e : (List.range 9).filter (unH xs) = (List.range 9).filter (lsH (invF fun p => srcM xs (nm p))) := List.filter_congr fun q hq => by
    have hq : q < 9 := by simpa using hq
    unfold unH lsH
    rw [rs_inv h hq]
    by_cases h2 : invI (fun p => srcM xs (nm p)) q = q
    · rw [if_pos h2]; unfold invF; rw [h2]; simp
    · rw [if_neg h2]
      have h3 : invF (fun p => srcM xs (nm p)) q ≠ nm q := fun e => h2 (nm_inj (h.inv hq).1 hq e)
      have h4 : invF (fun p => srcM xs (nm p)) q ≠ emp := nm_ne _
      simp [h3, h4]
  unfold unL lsF
  rw [e]
  refine List.map_congr_left fun q hq => ?_
  obtain ⟨h1, h2⟩ := List.mem_filter.1 hq
  have hq : q < 9 := by simpa using h1
  unfold lsH at h2
  have h2 : invF (fun p => srcM xs (nm p)) q ≠ nm q := by simpa using h2
  rw [rs_inv h hq, if_neg]
  intro e
  exact h2 (by unfold invF; rw [e])
/-- what the functions answer -/
def exchB (xs : List Mv) : Bool := mvalid xs && decide (leavesB xs = emp)
theorem exchB_iff {xs : List Mv} : exchB xs = true ↔ MV xs ∧ Exch (srcT (tabOf xs)) := by
  unfold exchB leavesB
  rw [Bool.and_eq_true, decide_eq_true_eq, leaf_exch]
  simp [mvalid]
theorem exchB_M {xs : List Mv} (h : exchB xs = true) : Exch fun p => srcM xs (nm p) := by
  obtain ⟨h1, h2⟩ := exchB_iff.1 h
  exact h2.congr fun p hp => srcT_M h1 hp
def undoM (xs : List Mv) : List Mv := if exchB xs then lsF (invF fun p => srcM xs (nm p)) 9 else []
theorem undoM_tab {xs : List Mv} (h : exchB xs = true) : mvT (noIdle (bkF (tabOf xs) 9)) (List.range 9) = undoM xs := by
  obtain ⟨h1, h2⟩ := exchB_iff.1 h
  rw [undoM, if_pos h, mvT_idle]
  refine lsF_congr fun q hq => ?_
  rw [bkF_inv h2 hq, invF, invF, invI_congr (fun p hp => srcT_M h1 hp)]
def lostH (xs : List Mv) (p : Nat) : Bool := decide (srcM xs (nm p) ≠ nm p) && decide (namesW (rsH xs (nm p)) = emp)
theorem lost_leaf {xs : List Mv} (h : MV xs) : namesW (lostH xs) = leavesB xs := by
  refine namesW_congr fun p hp => ?_
  unfold lostH leafH
  rw [rsH_rdH h, srcM_nm h hp]
end Go.PM
namespace Go.PM
open Go.RowKit
/-- a table of which the first k places have turned -/
def mixG (h f : Nat → ByteArray) (k : Nat) : Nat → ByteArray := fun q => if q < k then h q else f q
theorem mixG_zero (h f : Nat → ByteArray) : mixG h f 0 = f := by funext q; simp [mixG]
theorem mixG_at (h f : Nat → ByteArray) (k : Nat) : mixG h f k k = f k := by simp [mixG]
theorem mixG_src (h f : Nat → ByteArray) (k : Nat) : srcT (mixG h f k) k = srcT f k := by simp [srcT, mixG]
theorem mixG_set (h f : Nat → ByteArray) (k : Nat) (hk : k < 9) : (tabA (mixG h f k)).setIfInBounds k (.string (h k)) = tabA (mixG h f (k + 1)) := by
  have h1 := tabC_set (mixG h f k) k hk (h k)
  have e : (fun q => if q = k then h k else mixG h f k q) = mixG h f (k + 1) := by
    funext q
    by_cases hq : q = k
    · subst hq; simp [mixG]
    · by_cases h2 : q < k
      · simp [mixG, hq, h2, Nat.lt_succ_of_lt h2]
      · have : ¬ q < k + 1 := by omega
        simp [mixG, hq, h2, this]
  rw [e] at h1
  exact h1
theorem mixG_same (h f : Nat → ByteArray) (k : Nat) (e : h k = f k) : mixG h f (k + 1) = mixG h f k := by
  funext q
  by_cases hq : q = k
  · subst hq; simp [mixG, e]
  · by_cases h2 : q < k
    · simp [mixG, h2, Nat.lt_succ_of_lt h2]
    · have : ¬ q < k + 1 := by omega
      simp [mixG, h2, this]
theorem tabC_all (f : Nat → ByteArray) : (tabC f).all (·.oneCell') = true := by simp [tabC, Value.oneCell']
theorem tabX_mixG (h f : Nat → ByteArray) : tabX (mixG h f 9) = tabX h := rfl
end Go.PM
namespace Go.Proofs.YtnhncbhhlbcieaaGreat
open Go.RowKit Go.PM Go.Lib
attribute [local go_sem] Oper.semAt_some

end Go.Proofs.YtnhncbhhlbcieaaGreat
namespace Go.Proofs.YtnhncbhhlbcieaaGreat
open Go.RowKit Go.PM Go.Lib
attribute [local go_sem] Oper.semAt_some

end Go.Proofs.YtnhncbhhlbcieaaGreat
namespace Go.PM
open Go.RowKit
/-- an array of nine numbers -/
def cntC (f : Nat → Nat) : Array Value := #[.int .i64 (f 0 : Nat), .int .i64 (f 1 : Nat), .int .i64 (f 2 : Nat), .int .i64 (f 3 : Nat), .int .i64 (f 4 : Nat), .int .i64 (f 5 : Nat), .int .i64 (f 6 : Nat), .int .i64 (f 7 : Nat), .int .i64 (f 8 : Nat)]
theorem cntC_at (f : Nat → Nat) (p : Nat) (hp : p < 9) : (cntC f)[p]? = some (.int .i64 (f p : Nat)) := by
  match p, hp with
  | 0, _ | 1, _ | 2, _ | 3, _ | 4, _ | 5, _ | 6, _ | 7, _ | 8, _ => rfl
theorem cntC_set (f : Nat → Nat) (p : Nat) (hp : p < 9) (n : Nat) : (cntC f).setIfInBounds p (.int .i64 (n : Nat)) = cntC (fun q => if q = p then n else f q) := by
  match p, hp with
  | 0, _ | 1, _ | 2, _ | 3, _ | 4, _ | 5, _ | 6, _ | 7, _ | 8, _ => simp [cntC]
theorem cntC_congr {f g : Nat → Nat} (h : ∀ p, p < 9 → f p = g p) : cntC f = cntC g := by
  unfold cntC
  rw [h 0 (by omega), h 1 (by omega), h 2 (by omega), h 3 (by omega), h 4 (by omega), h 5 (by omega), h 6 (by omega), h 7 (by omega), h 8 (by omega)]
theorem cntC_one (f : Nat → Nat) : (cntC f).all (·.oneCell') = true := by simp [cntC, Value.oneCell']
/-- how many of the moves read each place -/
def cntF (xs : List Mv) (p : Nat) : Nat := rdN xs (nm p)
theorem rdN_snoc (xs : List Mv) (x : Mv) (a : ByteArray) : rdN (xs ++ [x]) a = rdN xs a + if x.2 = a then 1 else 0 := by
  unfold rdN
  rw [List.map_append, List.count_append, List.map_cons, List.map_nil, List.count_cons]
  simp
theorem rdN_le (xs : List Mv) (a : ByteArray) : rdN xs a ≤ xs.length := by
  unfold rdN
  have := List.count_le_length (a := a) (l := xs.map (·.2))
  simpa using this
theorem cntF_yes (xs : List Mv) (x : Mv) (h : isP x.2 = true) : cntC (fun q => if q = pidx x.2 then cntF xs (pidx x.2) + 1 else cntF xs q) = cntC (cntF (xs ++ [x])) := by
  refine cntC_congr fun p hp => ?_
  have hx := pidx_spec h
  unfold cntF
  rw [rdN_snoc]
  by_cases e : p = pidx x.2
  · subst e
    rw [if_pos rfl, if_pos hx.2.symm]
  · rw [if_neg e, if_neg (fun e2 => e (by rw [e2, pidx_nm hp]))]; rfl
theorem cntF_no (xs : List Mv) (x : Mv) (h : isP x.2 = false) : cntC (cntF xs) = cntC (cntF (xs ++ [x])) := by
  refine cntC_congr fun p hp => ?_
  unfold cntF
  rw [rdN_snoc, if_neg (fun e => by rw [e, isP_nm hp] at h; cases h)]; rfl
end Go.PM
namespace Go.Proofs.YtnhncbhhlbcieaaGreat
open Go.RowKit Go.PM

/-- whether a move can be done ahead of those that are counted -/
def aheadP (xs : List Mv) (m : Mv) : Bool := decide (rdN xs m.1 = 0)
end Go.Proofs.YtnhncbhhlbcieaaGreat
namespace Go.PM
open Go.RowKit
theorem aheadZ_at {xs : List Mv} {k : Nat} (hk : k < xs.length) (h : ∀ j (hj : j < k), freeB xs (xs[j]'(by omega)) = false) (hf : freeB xs xs[k] = true) : aheadZ xs = (k : Int) := by
  have : aheadI xs = some k := by
    unfold aheadI
    rw [List.findIdx?_eq_some_iff_getElem]
    exact ⟨hk, hf, fun j hj => by rw [h j hj]; decide⟩
  unfold aheadZ; rw [this]
theorem aheadZ_none {xs : List Mv} (h : ∀ j (hj : j < xs.length), freeB xs xs[j] = false) : aheadZ xs = -1 := by
  have : aheadI xs = none := by
    unfold aheadI
    rw [List.findIdx?_eq_none_iff]
    intro m hm
    obtain ⟨j, hj, rfl⟩ := List.getElem_of_mem hm
    exact h j hj
  unfold aheadZ; rw [this]
theorem aheadZ_lt (xs : List Mv) : aheadZ xs = -1 ∨ ∃ i : Nat, i < xs.length ∧ aheadZ xs = i ∧ aheadI xs = some i := by
  cases h : aheadI xs with
  | none => left; unfold aheadZ; rw [h]
  | some i =>
    right
    obtain ⟨hi, _⟩ := aheadI_some h
    exact ⟨i, hi, by unfold aheadZ; rw [h], rfl⟩
theorem aheadI_of_neg {xs : List Mv} (h : aheadZ xs = -1) : aheadI xs = none := by
  cases h2 : aheadI xs with
  | none => rfl
  | some i =>
    unfold aheadZ at h
    rw [h2] at h
    simp only at h
    omega
end Go.PM
namespace Go.Proofs.YtnhncbhhlbcieaaGreat
open Go.RowKit Go.PM

end Go.Proofs.YtnhncbhhlbcieaaGreat
namespace Go.PM
open Go.RowKit
theorem mcells_take (xs : List Mv) (k : Nat) : (mcells xs).take (k * 2) = mcells (xs.take k) := by
  induction xs generalizing k with
  | nil => simp [mcells]
  | cons x xs ih =>
    cases k with
    | zero => simp [mcells]
    | succ k =>
      rw [mcells_cons, List.take_succ_cons, mcells_cons, ← ih k, show (k + 1) * 2 = k * 2 + 1 + 1 by omega]
      rfl
theorem mcells_drop (xs : List Mv) (k : Nat) : (mcells xs).drop (k * 2) = mcells (xs.drop k) := by
  induction xs generalizing k with
  | nil => simp [mcells]
  | cons x xs ih =>
    cases k with
    | zero => simp [mcells]
    | succ k =>
      rw [mcells_cons, List.drop_succ_cons, ← ih k, show (k + 1) * 2 = k * 2 + 1 + 1 by omega]
      rfl
theorem Rd.cellsFrom {w : World} {b off n cap : Nat} {xs : List Mv} (h : RdM w (.slice (some ⟨b, off, none⟩) n cap) xs) : ∀ j u, (mcells xs)[j]? = some u → w.cell? ⟨b, off + j, none⟩ = some u := by
  intro j u hu
  obtain ⟨A, cap', e, hc, hn, hl, hr⟩ := h
  have h0 : 0 < xs.length := by
    have := (List.getElem?_eq_some_iff.1 hu).1
    rw [mcells_length] at this; omega
  obtain ⟨b', off', eA, hb, hcell⟩ := hr h0
  cases e; cases eA
  exact hcell j u hu
end Go.PM
namespace Go.Proofs.YtnhncbhhlbcieaaGreat
open Go.RowKit Go.PM

end Go.Proofs.YtnhncbhhlbcieaaGreat
namespace Go.PM
open Go.RowKit
/-- the first k moves are redirected -/
def redK (d : Mv) (xs : List Mv) (k : Nat) : List Mv := redM d (xs.take k) ++ xs.drop k
theorem redK_len (d : Mv) (xs : List Mv) (k : Nat) : (redK d xs k).length = xs.length := by
  unfold redK
  rw [List.length_append, redM_len, List.length_take, List.length_drop]; omega
theorem redK_zero (d : Mv) (xs : List Mv) : redK d xs 0 = xs := by
  unfold redK redM
  simp [instM]
theorem redK_full (d : Mv) (xs : List Mv) : redK d xs xs.length = redM d xs := by
  unfold redK; simp
def redB (d : Mv) (m : Mv) : Bool := decide (m.2 = d.2) && !isD d.2
theorem redM_append (d : Mv) (xs ys : List Mv) : redM d (xs ++ ys) = redM d xs ++ redM d ys := by
  unfold redM; split
  · rfl
  · simp [instM]
theorem redM_one (d m : Mv) : redM d [m] = [if redB d m = true then (m.1, d.1) else m] := by
  unfold redM redB instM
  by_cases h : isD d.2 = true
  · rw [if_pos h, h]; simp
  · rw [if_neg h]
    have : isD d.2 = false := by simpa using h
    rw [this]
    by_cases h2 : m.2 = d.2
    · simp [h2]
    · simp [h2]
theorem redK_at (d : Mv) (xs : List Mv) (k : Nat) (hk : k < xs.length) : (redK d xs k)[k]? = some xs[k] := by
  unfold redK
  rw [List.getElem?_append_right (by rw [redM_len, List.length_take]; omega), redM_len, List.length_take, List.getElem?_drop]
  rw [show k + (k - min k xs.length) = k by omega, List.getElem?_eq_getElem hk]
theorem redK_succ (d : Mv) (xs : List Mv) (k : Nat) (hk : k < xs.length) : redK d xs (k + 1) = (redK d xs k).set k (if redB d xs[k] = true then (xs[k].1, d.1) else xs[k]) := by
  have hl : (redM d (xs.take k)).length = k := by rw [redM_len, List.length_take]; omega
  unfold redK
  rw [take_snoc xs k hk, redM_append, redM_one, List.set_append_right _ _ (by omega), hl, Nat.sub_self, List.drop_eq_getElem_cons hk, List.set_cons_zero, List.append_assoc]
  rfl
theorem mcells_set2 (xs : List Mv) (k : Nat) (hk : k < xs.length) (s : ByteArray) : (mcells xs).set (k * 2 + 1) (.string s) = mcells (xs.set k (xs[k].1, s)) := by
  induction xs generalizing k with
  | nil => simp at hk
  | cons x xs ih =>
    cases k with
    | zero => simp [mcells]
    | succ k =>
      have := ih k (by simpa using hk)
      rw [mcells_cons, List.set_cons_succ, show (k + 1) * 2 = k * 2 + 1 + 1 by omega, List.set_cons_succ, this, List.set_cons_succ, mcells_cons]
      rfl
end Go.PM
namespace Go.Proofs.YtnhncbhhlbcieaaGreat
open Go.RowKit Go.PM

end Go.Proofs.YtnhncbhhlbcieaaGreat
namespace Go.PM
open Go.RowKit
def lenV : Value → Nat
  | .slice _ n _ => n
  | _ => 0
/-- the list that an iterator holds: the one that it began with, or a row of its own apart from the row r -/
def HeldW (B : Nat) (e : TypeId) (v : Value) (xs : List Mv) (r : Option Nat) (A : World) (wv : Value) (ws : List Mv) : Prop :=
  (wv = v ∧ ws = xs) ∨ (A.ownsRow B e 2 wv ws.length (mcells ws) ∧ ∀ g, wv.ownBlock = some g → r ≠ some g)
theorem grown_cell (W : World) (a : Addr) (v : Value) : W.grownBy (W.setCell a v) (some a.block) :=
  ⟨rfl, rfl, rfl, by simp [World.size_setCell], fun k _ hne => heap_setCell_other W a k v (fun e => hne (by rw [e]))⟩
theorem own_blk {w : World} {base : Nat} {e : TypeId} {size n g : Nat} {v : Value} {cs : List Value} (h : w.ownsRow base e size v n cs) (hg : v.ownBlock = some g) : g < w.heap.size ∧ base ≤ g := by
  refine ⟨?_, own_block_ge h g hg⟩
  rcases h.2 with ⟨rfl, _⟩ | ⟨g', cap, cur, rfl, _, hh, _⟩
  · cases hg
  · cases hg
    exact (Array.getElem?_eq_some_iff.1 hh).1
theorem HeldW.rd {B : Nat} {e : TypeId} {v : Value} {xs : List Mv} {r : Option Nat} {A : World} {wv : Value} {ws : List Mv} (h : HeldW B e v xs r A wv ws) (hx : RdM A v xs) : RdM A wv ws := by
  rcases h with ⟨rfl, rfl⟩ | ⟨h, _⟩
  · exact hx
  · exact Rd.of_own h
theorem HeldW.below {B : Nat} {e : TypeId} {v : Value} {xs : List Mv} {r : Option Nat} {A A' : World} {wv : Value} {ws : List Mv} (h : HeldW B e v xs r A wv ws) (hb : Below A.heap.size A A') : HeldW B e v xs r A' wv ws := by
  rcases h with h | ⟨h, h2⟩
  · exact .inl h
  · exact .inr ⟨own_keep h hb, h2⟩
theorem HeldW.step {B : Nat} {e : TypeId} {v : Value} {xs : List Mv} {r r' : Option Nat} {A A' : World} {wv : Value} {ws : List Mv} (h : HeldW B e v xs r A wv ws) (hs : RowStep B r r' A A') : HeldW B e v xs r' A' wv ws := by
  rcases h with h | ⟨h, h2⟩
  · exact .inl h
  · refine .inr ⟨⟨h.1, ?_⟩, fun g hg e => ?_⟩
    · rcases h.2 with h' | ⟨g, cap, cur, rfl, hbg, hh, hr⟩
      · exact .inl h'
      · have hlt := (Array.getElem?_eq_some_iff.1 hh).1
        exact .inr ⟨g, cap, cur, rfl, hbg, (hs.same g hbg hlt (fun e => h2 g rfl e.symm)).trans hh, hr⟩
    · have hb := own_blk h hg
      rcases hs.row with h3 | h3
      · exact h2 g hg (by rw [← h3]; exact e)
      · have := h3 g e; omega
theorem HeldW.new {B : Nat} {e : TypeId} {v : Value} {xs : List Mv} {r : Option Nat} {A A' : World} {wv : Value} {ws : List Mv} (h : A'.ownsRow A.heap.size e 2 wv ws.length (mcells ws)) (hB : B ≤ A.heap.size) (hr : ∀ g, r = some g → g < A.heap.size) : HeldW B e v xs r A' wv ws := by
  refine .inr ⟨own_more h hB, fun g hg e => ?_⟩
  have h1 := (own_blk h hg).2
  have := hr g e
  omega
end Go.PM
namespace Go.Proofs.YtnhncbhhlbcieaaGreat
open Go.RowKit Go.PM

end Go.Proofs.YtnhncbhhlbcieaaGreat
namespace Go.PM
open Go.RowKit
theorem leastK_ex {P : Nat → Prop} : ∀ n, P n → ∃ m, P m ∧ ∀ k, P k → m ≤ k := by
  intro n
  induction n using Nat.strongRecOn with
  | ind n ih =>
    intro h
    by_cases h2 : ∃ m, m < n ∧ P m
    · obtain ⟨m, h3, h4⟩ := h2; exact ih m h3 h4
    · exact ⟨n, h, fun k hk => Nat.le_of_not_lt fun hlt => h2 ⟨k, hlt, hk⟩⟩
open Classical in
/-- the least number of which P holds -/
noncomputable def leastK (P : Nat → Prop) : Nat := if h : ∃ m, P m ∧ ∀ k, P k → m ≤ k then Classical.choose h else 0
theorem leastK_spec {P : Nat → Prop} (h : ∃ n, P n) : P (leastK P) ∧ ∀ k, P k → leastK P ≤ k := by
  obtain ⟨n, hn⟩ := h
  have hx := leastK_ex n hn
  unfold leastK
  rw [dif_pos hx]
  exact Classical.choose_spec hx
/-- what the ordering holds at the head of a round: k steps are enough for what waits -/
def OrdR (B : Nat) (e : TypeId) (v : Value) (xs : List Mv) (J : Option Nat → List Mv → World → Prop) (k : Nat) (wv : Value) (A : World) : Prop :=
  ∃ (pre ws : List Mv) (r : Option Nat), pre ++ ordF k ws = ordF 19 xs ∧ Wt ws ∧ muW ws ≤ k ∧ ws.length ≤ 9 ∧ J r pre A ∧ HeldW B e v xs r A wv ws ∧ B ≤ A.heap.size
end Go.PM
namespace Go.Proofs.YtnhncbhhlbcieaaGreat
open Go.RowKit Go.PM

end Go.Proofs.YtnhncbhhlbcieaaGreat
namespace Go.PM
open Go.RowKit
/-- the moves without idle ones, in the order of their places; none where they are not valid -/
def bioM (xs : List Mv) : List Mv := if mvalid xs then busyF xs 9 else []
theorem bioM_yes {xs : List Mv} (h : MV xs) : bioM xs = busyF xs 9 := if_pos (by simpa [mvalid] using h)
theorem bioM_no {xs : List Mv} (h : ¬ MV xs) : bioM xs = [] := if_neg (by simpa [mvalid] using h)
theorem bioM_len (xs : List Mv) : (bioM xs).length ≤ 9 := by
  unfold bioM; split
  · exact busyF_len xs 9
  · simp
theorem Wt_nil : Wt [] := ⟨by simp, by simp, by simp, by simp, by simp [rdN]⟩
theorem bioM_Wt (xs : List Mv) : Wt (bioM xs) := by
  by_cases h : MV xs
  · rw [bioM_yes h]; exact busyF_Wt h
  · rw [bioM_no h]; exact Wt_nil
theorem bioM_tab {xs : List Mv} (h : MV xs) : mvT (noIdle (tabOf xs)) (List.range 9) = bioM xs := by
  rw [mvT_idle, bioM_yes h]
  exact lsF_congr fun p hp => srcT_M h hp
theorem bioM_zero {xs : List Mv} (h : ¬ MV xs) : mvT (noIdle (fun _ => emp)) (List.range 9) = bioM xs := by
  rw [mvT_idle, bioM_no h, ← lsF_nm]
  exact lsF_congr fun p _ => srcT_zero p
theorem ordM_bio (xs : List Mv) : ordM xs = ordF 19 (bioM xs) := by
  by_cases h : MV xs
  · rw [bioM_yes h]; unfold ordM; rw [if_pos (by simpa [mvalid] using h)]
  · rw [bioM_no h, ordF_nil]; unfold ordM; rw [if_neg (by simpa [mvalid] using h)]
theorem stL_len (ms : List Mv) : (stL ms).length = ms.length := by simp [stL]
theorem ordM_len (xs : List Mv) : (ordM xs).length ≤ 19 := by
  unfold ordM; split
  · exact ordF_len _ _
  · simp
theorem wspM_len (xs : List Mv) : (wspM xs).length ≤ 9 := by
  unfold wspM; split
  · have h1 := takF_len 9 (busyF xs 9)
    have h2 := busyF_len xs 9
    unfold takM; omega
  · simp
theorem takF_nil (n : Nat) : takF n [] = [] := takF_none rfl
end Go.PM
namespace Go.Proofs.YtnhncbhhlbcieaaGreat
open Go.RowKit Go.PM
attribute [local go_sem] Oper.semAt_some

end Go.Proofs.YtnhncbhhlbcieaaGreat
namespace Go.PM
open Go.RowKit
def zS : Nat → UInt8 := fun _ => 0
abbrev zSA : Array Value := #[.int .u8 0, .int .u8 0, .int .u8 0, .int .u8 0, .int .u8 0, .int .u8 0, .int .u8 0, .int .u8 0, .int .u8 0, .int .u8 0, .int .u8 0]
theorem stC_zS : stC zS = zSA := by simp [stC, zS]
def stOf (s : ByteArray) : Nat → UInt8 := if stateV s then ofB s else zS
theorem stOf_yes {s : ByteArray} (h : stateV s = true) : stOf s = ofB s := if_pos h
theorem stOf_no {s : ByteArray} (h : stateV s = false) : stOf s = zS := if_neg (by rw [h]; decide)
def valL (l : List UInt8) (k : Nat) : Bool := (l.take k).all isV
theorem valL_succ (l : List UInt8) (k : Nat) (hk : k < l.length) : valL l (k + 1) = (valL l k && isV l[k]) := by
  unfold valL; rw [take_snoc l k hk, List.all_append]; simp
def mixS (s : ByteArray) (k : Nat) : Nat → UInt8 := fun p => if p < k then ofB s p else 0
theorem mixS_zero (s : ByteArray) : mixS s 0 = zS := by funext p; simp [mixS, zS]
theorem mixS_succ (s : ByteArray) (k : Nat) : updS (mixS s k) k (ofB s k) = mixS s (k + 1) := by
  funext p
  unfold updS mixS
  by_cases h : p = k
  · subst h; simp
  · by_cases h2 : p < k
    · simp [h, h2, Nat.lt_succ_of_lt h2]
    · have : ¬ p < k + 1 := by omega
      simp [h, h2, this]
theorem mixS_full (s : ByteArray) : stC (mixS s 11) = stC (ofB s) := stC_congr fun p hp => by simp [mixS, hp]
end Go.PM
namespace Go.Proofs.YtnhncbhhlbcieaaGreat
open Go.RowKit Go.PM

end Go.Proofs.YtnhncbhhlbcieaaGreat
namespace Go.Proofs.YtnhncbhhlbcieaaGreat
open Go.RowKit Go.PM

/-- a whole array is read in a quiet region: the step -/
theorem row_step {P : Program} {ops : Array Oper} {C : World → Prop} {Q : Act → Prop} {a : Act} {o : Oper} {rest : List Oper} (hw : Region.wanted o (yielded ops a.tmps) = true) (ty : TypeId) (x : Operand) (ho : o.op = .load ty x) (b : Nat) (t : TypeId) (cs : Array Value)
    (hx : a.eval x = .pointer (some ⟨b, 0, none⟩)) (hC : ∀ W, C W → At W b t cs) (k : Nat) (e : TypeId) (hu : P.underlying ty = some (.array k e)) (hi : (P.info? ty).map (·.size) = some cs.size) (h : wpQuiet P ops C Q rest (a.put o.dst (.agg cs))) : wpQuiet P ops C Q (o :: rest) a :=
  BigFrame.wpQuiet_want hw fun _ hK => quiet_row ty x ho b t cs hx hC k e hu hi (hK _ h)

end Go.Proofs.YtnhncbhhlbcieaaGreat
