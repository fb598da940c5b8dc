import Derived.Test.YtnpahbdaeagikaaNames
import Derived.Test.YtnpahbdaeagikaaSource
import Derived.BigQuiet
namespace Go.PM
open Go.RowKit
def nmd (xs : List Mv) : List UInt8 := xs.flatMap fun m => m.1.data.toList ++ m.2.data.toList
def nmB (xs : List Mv) : ByteArray := ⟨(nmd xs).toArray⟩
def piH (xs : List Mv) (p : Nat) : Bool := decide (placesL.getD p 0 ∈ nmd xs)
theorem nmd_snoc (l : List Mv) (m : Mv) : nmd (l ++ [m]) = nmd l ++ (m.1.data.toList ++ m.2.data.toList) := by simp [nmd]
theorem any_snoc (l : List Mv) (m : Mv) (f : Mv → Bool) : (l ++ [m]).any f = (l.any f || f m) := by simp
theorem nmB_step (xs : List Mv) (k : Nat) (hk : k < xs.length) : nmB (xs.take k) ++ (xs[k].1 ++ xs[k].2) = nmB (xs.take (k + 1)) := by
  apply ByteArray.ext
  rw [ByteArray.data_append, ByteArray.data_append, nmB, nmB, take_snoc xs k hk, nmd_snoc]
  generalize nmd (xs.take k) = L
  simp
theorem nmB_size {xs : List Mv} (h : MV xs) (k : Nat) : (nmB (xs.take k)).size ≤ 2 * k := by
  induction k with
  | zero => exact Nat.le_refl _
  | succ k ih =>
    by_cases hk : k < xs.length
    · rw [← nmB_step xs k hk]
      have h1 := h.1 xs[k] (List.getElem_mem hk)
      unfold mok at h1; rw [Bool.and_eq_true] at h1
      have h2 := isP_size h1.1
      have h3 := isS_size h1.2
      simp only [ByteArray.size_append]; omega
    · rw [List.take_of_length_le (by omega)] at ih ⊢
      omega
def inMv (p : Nat) (m : Mv) : Bool := decide (m.1 = nm p) || decide (m.2 = nm p)
def inM (xs : List Mv) (p k : Nat) : Bool := (xs.take k).any (inMv p)
theorem inM_succ (xs : List Mv) (p k : Nat) (hk : k < xs.length) : inM xs p (k + 1) = (inM xs p k || decide (xs[k].1 = nm p) || decide (xs[k].2 = nm p)) := by
  rw [inM, inM, take_snoc xs k hk, any_snoc, inMv, Bool.or_assoc]
theorem inM_zero (xs : List Mv) (p : Nat) : inM xs p 0 = false := by simp [inM]
theorem one_mem {a : ByteArray} (h : a.size = 1) (p : Nat) : placesL.getD p 0 ∈ a.data.toList ↔ a = nm p := by
  obtain ⟨c, rfl⟩ := one_of_size h
  constructor
  · intro h'
    simp at h'
    rw [nm, ← h']; simp
  · intro h'
    rw [h']; simp [nm]
theorem inM_full {xs : List Mv} (h : MV xs) (p : Nat) : inM xs p xs.length = piH xs p := by
  rw [inM, List.take_length, piH, Bool.eq_iff_iff, List.any_eq_true, decide_eq_true_eq, nmd, List.mem_flatMap]
  have key : ∀ m ∈ xs, inMv p m = true ↔ placesL.getD p 0 ∈ m.1.data.toList ++ m.2.data.toList := fun m hm => by
    have h1 := h.1 m hm
    unfold mok at h1; rw [Bool.and_eq_true] at h1
    rw [List.mem_append, one_mem (isP_size h1.1), one_mem (isS_size h1.2), inMv, Bool.or_eq_true, decide_eq_true_eq, decide_eq_true_eq]
  constructor
  · rintro ⟨m, hm, e⟩; exact ⟨m, hm, (key m hm).1 e⟩
  · rintro ⟨m, hm, e⟩; exact ⟨m, hm, (key m hm).2 e⟩
end Go.PM
namespace Go.Proofs.Ytnpahbdaeagikaa
open Go.RowKit Go.PM

set_option maxRecDepth 100000 in
set_option maxHeartbeats 1000000 in
theorem placesFn_c (xs : List Mv) (p : Nat) (hp : p < 9) (b1 : Nat) (w : World) (h1 : At w b1 9 #[.string (nmB xs)]) :
    Calls Try.prog 70 #[.int .i64 p, .pointer (some ⟨b1, 0, none⟩)] w fun e w' => e = .returned (.bool (piH xs p)) ∧ Below w.heap.size w w' := by
  have l1 := h1.lt
  have hc : ∀ x : Ext w.heap.size w, x.val.cell? ⟨b1, 0, none⟩ = some (.string (nmB xs)) := fun x => (x.property.cell (p := ⟨b1, 0, none⟩) l1).trans (h1.cell 0)
  have hcon : ∀ W : World, Calls Try.prog 71 #[.string (nmB xs), .string (nm p)] W fun e w' => e = .returned (.bool (piH xs p)) ∧ W = w' := fun W =>
    (Try.strings_Contains_one (nmB xs) (placesL.getD p 0) W).mono fun _ _ ⟨e1, e2⟩ => ⟨by
      rw [e1]; congr 2; simp only [piH, decide_eq_decide, indexByte_mem]; simp [nmB], e2.symm⟩
  have hname : ∀ W : World, Calls Try.prog 64 #[.int .i64 p] W fun e w' => e = .returned (.string (nm p)) ∧ W = w' := fun W => name_c p hp W
  generalize piH xs p = r at *
  generalize nm p = q at *
  generalize nmB xs = t at *
  go_enter Try.func70, Try.ntmps70
  go_wp2
  refine wp_region_ext w.heap.size (by kernel_rfl) (by kernel_rfl) ?_
  repeat (go_big_quiet_step (first | (go_at_call 64; exact ext_same _ (hname _)) | (go_at_call 71; exact ext_same _ (hcon _))))
  refine wpQuiet_nil ?_
  intro w2 hw'
  obtain ⟨xw, hxw⟩ := hw'
  have hb2 := xw.property
  rw [← hxw] at hb2
  clear hxw xw hc hcon hname
  go_wp2
  go_ret
  exact ⟨rfl, hb2⟩

def plcs (xs : List Mv) : ByteArray := namesW (piH xs)
set_option maxRecDepth 100000 in
set_option maxHeartbeats 1000000 in
theorem imPlacesIn_c (xs : List Mv) (v : Value) (w : World) (hx : RdM w v xs) :
    Calls Try.prog 33 #[v] w fun e w' => e = .returned (.tuple #[.string (okS (mvalid xs) (plcs xs)), .bool (mvalid xs)]) ∧ Below w.heap.size w w' := by
  have HO : Hid (∀ b s, okS b s = if b then s else ⟨#[]⟩) := fun _ _ => rfl
  by_cases h1 : MV xs
  · have hm : mvalid xs = true := by simpa [mvalid] using h1
    have HSZ := Lib.hid (fun k => nmB_size h1 k)
    have HST := Lib.hid (fun k hk => nmB_step xs k hk)
    have HM := Lib.hid h1
    have HVV := Lib.hid (fun k (hk : k < xs.length) => h1.1 xs[k] (List.getElem_mem hk))
    have hlen := MV_len h1
    clear h1
    have HMM := Lib.hid hm
    clear hm
    go_enter Try.func33, Try.ntmps33
    go_wp2_with fail
    refine (imMovesValid_c xs v _ hx).mono ?_
    rintro e w1 ⟨rfl, hb1⟩
    rw [HMM.out]
    have hs1 := hb1.size
    have hx1 := hx.below hb1
    obtain ⟨A, cap, rfl, hn, hc, hcell⟩ := hx1.open
    clear hx1
    go_wp2
    go_loopw [6, 12] (fun _ i wr => ∃ (k : Nat), k ≤ xs.length ∧ i = .int .i64 k ∧ At wr w1.heap.size 9 #[.string (nmB (xs.take k))] ∧ Below w1.heap.size w1 wr) (fun _ i _ => xs.length - (intOf i).toNat)
    case atStart => exact ⟨0, by omega, rfl, At.new w1 _ _, (Below.refl _ _).alloc (Nat.le_refl _) _⟩
    case round =>
      obtain ⟨k, hk, rfl, hA, hb⟩ := hrel
      have hbs := hb.size
      by_cases hlt : k < xs.length
      · obtain ⟨b, off, rfl, hbl, hc1, hc2⟩ := hcell k hlt
        have hd1 := (hb.cell (p := ⟨b, off + k * 2, none⟩) hbl).trans hc1
        have hd2 := (hb.cell (p := ⟨b, off + k * 2 + 1, none⟩) hbl).trans hc2
        clear hc1 hc2 hcell
        have hst := HST.out k hlt
        have hsz := HSZ.out k
        have hv := HVV.out k hlt
        unfold mok at hv; rw [Bool.and_eq_true] at hv
        have hv1 := isP_size hv.1
        have hv2 := isS_size hv.2
        clear hv
        generalize xs[k].1 = x1 at *
        generalize xs[k].2 = x2 at *
        generalize nmB (xs.take k) = tk at *
        have HS := Lib.hid hst
        clear hst
        have hq := At.alloc hA (.cells #[.string x1, .string x2] 43)
        have hq1 := hq.cell 0
        have hq2 := hq.frozen 0
        have hAl := hA.lt
        go_wp2
        go_roundw
        case rel =>
          refine ⟨k + 1, by omega, by go_num, ?_, ?_⟩
          · rw [← HS.out]
            exact At.alloc (At.set hA 0 _) _
          · exact (hb.setCell (Nat.le_refl _) _).alloc (by simp; omega) _
        case measure => simp [intOf]; omega
      · have hk' : k = xs.length := by omega
        have hA' : At wr w1.heap.size 9 #[.string (nmB xs)] := by rw [hk', List.take_length] at hA; exact hA
        clear hA hcell
        go_wp2_with fail
        refine (names_c 70 #[.pointer (some ⟨w1.heap.size, 0, none⟩)] (piH xs) _ (fun _ _ => rfl) (fun p hp W hW => ?_)).mono ?_
        · exact placesFn_c xs p hp _ W (hA'.keep hW)
        · rintro e w3 ⟨rfl, hb3⟩
          clear hA'
          go_wp2
          go_ret2
          refine ⟨by rw [HMM.out, HO.out]; rfl, ?_⟩
          exact (hb1.trans (hb.mono hs1)).trans (hb3.mono (by omega))
  · have hm : mvalid xs = false := by simpa [mvalid] using h1
    go_enter Try.func33, Try.ntmps33
    go_wp2_with fail
    refine (imMovesValid_c xs v _ hx).mono ?_
    rintro e w1 ⟨rfl, hb1⟩
    rw [hm]
    go_wp2
    go_ret2
    exact ⟨by rw [hm, HO.out]; rfl, hb1⟩
end Go.Proofs.Ytnpahbdaeagikaa
