import Derived.Test.YtbgchjjaaelkbaaNames
import Derived.Test.YtbgchjjaaelkbaaSource
import Derived.Test.YtbgchjjaaelkbaaNamesIn
import Derived.BigQuiet
namespace Go.PM
open Go.RowKit
def nmd (xs : List Mv) : List UInt8 := xs.flatMap fun m => m.1.data.toList ++ m.2.data.toList
def nmB (xs : List Mv) : ByteArray := ⟨(nmd xs).toArray⟩
def piH (xs : List Mv) (p : Nat) : Bool := decide (placesL.getD p 0 ∈ nmd xs)
theorem nmd_snoc (l : List Mv) (m : Mv) : nmd (l ++ [m]) = nmd l ++ (m.1.data.toList ++ m.2.data.toList) := by simp [nmd]
theorem any_snoc (l : List Mv) (m : Mv) (f : Mv → Bool) : (l ++ [m]).any f = (l.any f || f m) := by simp
theorem nmB_step (xs : List Mv) (k : Nat) (hk : k < xs.length) : nmB (xs.take k) ++ (xs[k].1 ++ xs[k].2) = nmB (xs.take (k + 1)) := by
  apply ByteArray.ext
  rw [ByteArray.data_append, ByteArray.data_append, nmB, nmB, take_snoc xs k hk, nmd_snoc]
  generalize nmd (xs.take k) = L
  simp
theorem nmB_size {xs : List Mv} (h : MV xs) (k : Nat) : (nmB (xs.take k)).size ≤ 2 * k := by
  induction k with
  | zero => exact Nat.le_refl _
  | succ k ih =>
    by_cases hk : k < xs.length
    · rw [← nmB_step xs k hk]
      have h1 := h.1 xs[k] (List.getElem_mem hk)
      unfold mok at h1; rw [Bool.and_eq_true] at h1
      have h2 := isP_size h1.1
      have h3 := isS_size h1.2
      simp only [ByteArray.size_append]; omega
    · rw [List.take_of_length_le (by omega)] at ih ⊢
      omega
def inMv (p : Nat) (m : Mv) : Bool := decide (m.1 = nm p) || decide (m.2 = nm p)
def inM (xs : List Mv) (p k : Nat) : Bool := (xs.take k).any (inMv p)
theorem inM_succ (xs : List Mv) (p k : Nat) (hk : k < xs.length) : inM xs p (k + 1) = (inM xs p k || decide (xs[k].1 = nm p) || decide (xs[k].2 = nm p)) := by
  rw [inM, inM, take_snoc xs k hk, any_snoc, inMv, Bool.or_assoc]
theorem inM_zero (xs : List Mv) (p : Nat) : inM xs p 0 = false := by simp [inM]
theorem one_mem {a : ByteArray} (h : a.size = 1) (p : Nat) : placesL.getD p 0 ∈ a.data.toList ↔ a = nm p := by
  obtain ⟨c, rfl⟩ := one_of_size h
  constructor
  · intro h'
    simp at h'
    rw [nm, ← h']; simp
  · intro h'
    rw [h']; simp [nm]
theorem inM_full {xs : List Mv} (h : MV xs) (p : Nat) : inM xs p xs.length = piH xs p := by
  rw [inM, List.take_length, piH, Bool.eq_iff_iff, List.any_eq_true, decide_eq_true_eq, nmd, List.mem_flatMap]
  have key : ∀ m ∈ xs, inMv p m = true ↔ placesL.getD p 0 ∈ m.1.data.toList ++ m.2.data.toList := fun m hm => by
    have h1 := h.1 m hm
    unfold mok at h1; rw [Bool.and_eq_true] at h1
    rw [List.mem_append, one_mem (isP_size h1.1), one_mem (isS_size h1.2), inMv, Bool.or_eq_true, decide_eq_true_eq, decide_eq_true_eq]
  constructor
  · rintro ⟨m, hm, e⟩; exact ⟨m, hm, (key m hm).1 e⟩
  · rintro ⟨m, hm, e⟩; exact ⟨m, hm, (key m hm).2 e⟩
end Go.PM
namespace Go.Proofs.Ytbgchjjaaelkbaa
open Go.RowKit Go.PM

def plcs (xs : List Mv) : ByteArray := namesW (piH xs)
set_option maxRecDepth 100000 in
set_option maxHeartbeats 1000000 in
theorem imPlacesIn_c (xs : List Mv) (v : Value) (w : World) (hx : RdM w v xs) :
    Calls Try.prog 17 #[v] w fun e w' => e = .returned (.tuple #[.string (okS (mvalid xs) (plcs xs)), .bool (mvalid xs)]) ∧ Below w.heap.size w w' := by
  have HO : Hid (∀ b s, okS b s = if b then s else ⟨#[]⟩) := fun _ _ => rfl
  by_cases h1 : MV xs
  · have hm : mvalid xs = true := by simpa [mvalid] using h1
    have HSZ := Lib.hid (fun k => nmB_size h1 k)
    have HST := Lib.hid (fun k hk => nmB_step xs k hk)
    have HVV := Lib.hid (fun k (hk : k < xs.length) => h1.1 xs[k] (List.getElem_mem hk))
    have hlen := MV_len h1
    clear h1
    have HMM := Lib.hid hm
    clear hm
    have HPL := Lib.hid (fun W => namesIn_c ⟨#[97, 98, 99, 100, 101, 102, 65, 66, 67]⟩ (nmB xs) (by decide) W)
    have HPE : Hid (pickB (ByteArray.mk #[97, 98, 99, 100, 101, 102, 65, 66, 67]).data.toList (inTx (ByteArray.mk #[97, 98, 99, 100, 101, 102, 65, 66, 67]).data.toList (nmB xs).data.toList) (ByteArray.mk #[97, 98, 99, 100, 101, 102, 65, 66, 67]).size = plcs xs) := by
      show _ = _
      have e : inTx placesL (nmB xs).data.toList = piH xs := by funext p; simp [inTx, piH, nmB]
      show pickB placesL (inTx placesL (nmB xs).data.toList) 9 = plcs xs
      rw [e]; rfl
    go_enter Try.func17, Try.ntmps17
    go_wp2_with fail
    refine (imMovesValid_c xs v _ hx).mono ?_
    rintro e w1 ⟨rfl, hb1⟩
    rw [HMM.out]
    have hs1 := hb1.size
    have hx1 := hx.below hb1
    obtain ⟨A, cap, rfl, hn, hc, hcell⟩ := hx1.open
    clear hx1
    go_wp2
    go_loopw [4, 6, 12] (fun o _ i wr => ∃ (k : Nat), k ≤ xs.length ∧ i = .int .i64 k ∧ o = .string (nmB (xs.take k)) ∧ Below w1.heap.size w1 wr) (fun _ _ i _ => xs.length - (intOf i).toNat)
    case atStart => exact ⟨0, by omega, rfl, rfl, Below.refl _ _⟩
    case round =>
      obtain ⟨k, hk, rfl, rfl, hb⟩ := hrel
      have hbs := hb.size
      by_cases hlt : k < xs.length
      · obtain ⟨b, off, rfl, hbl, hc1, hc2⟩ := hcell k hlt
        have hd1 := (hb.cell (p := ⟨b, off + k * 2, none⟩) hbl).trans hc1
        have hd2 := (hb.cell (p := ⟨b, off + k * 2 + 1, none⟩) hbl).trans hc2
        clear hc1 hc2 hcell
        have hst := HST.out k hlt
        have hsz := HSZ.out k
        have hv := HVV.out k hlt
        unfold mok at hv; rw [Bool.and_eq_true] at hv
        have hv1 := isP_size hv.1
        have hv2 := isS_size hv.2
        clear hv
        generalize xs[k].1 = x1 at *
        generalize xs[k].2 = x2 at *
        generalize nmB (xs.take k) = tk at *
        have HS := Lib.hid hst
        clear hst
        go_wp2
        go_roundw
        case rel =>
          refine ⟨k + 1, by omega, by go_num, ?_, ?_⟩
          · rw [← HS.out]
          · (repeat' (first | (with_reducible exact Below.refl _ _) | (with_reducible assumption) | (with_reducible refine Below.alloc ?_ ?_ _) | (with_reducible refine Below.drew ?_) | (with_reducible refine Below.setCell ?_ ?_ _) | (with_reducible exact Nat.le_refl _) | omega | ((repeat (first | rewrite [World.size_alloc] | rewrite [World.size_setCell] | rewrite [World.size_drew])); omega) | (simp; omega) | (simp; done)))
        case measure => simp [intOf]; omega
      · have hk' : k = xs.length := by omega
        have HT : Hid (nmB (xs.take k) = nmB xs) := by show _ = _; rw [hk', List.take_length]
        rw [HT.out]
        clear hcell
        go_wp2_with (go_at_call 72; refine (HPL.out _).mono ?_; rintro e w' ⟨rfl, rfl⟩)
        go_ret2
        refine ⟨by rw [HMM.out, HO.out, ← HPE.out]; rfl, ?_⟩
        exact hb1.trans (hb.mono hs1)
  · have hm : mvalid xs = false := by simpa [mvalid] using h1
    go_enter Try.func17, Try.ntmps17
    go_wp2_with fail
    refine (imMovesValid_c xs v _ hx).mono ?_
    rintro e w1 ⟨rfl, hb1⟩
    rw [hm]
    go_wp2
    go_ret2
    exact ⟨by rw [hm, HO.out]; rfl, hb1⟩
end Go.Proofs.Ytbgchjjaaelkbaa
