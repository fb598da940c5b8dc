import Derived.Test.YthgcoocgeekdnaaDoorNames
import Derived.Test.YthgcoocgeekdnaaDoorSource
namespace Go.PM
open Go.RowKit
def rdH (f : Nat → ByteArray) (a : ByteArray) (p : Nat) : Bool := decide (nm p ≠ a) && decide (srcT f p = a)
def rsH (xs : List Mv) (a : ByteArray) (p : Nat) : Bool := decide (nm p ≠ a) && decide (srcM xs (nm p) = a)
theorem namesL_succ (h : Nat → Bool) (k : Nat) : namesL h (List.range (k + 1)) = if h k then namesL h (List.range k) ++ [placesL.getD k 0] else namesL h (List.range k) := by
  rw [List.range_succ]
  cases hk : h k <;> simp [namesL, hk]
theorem namesL_size (h : Nat → Bool) (k : Nat) : (namesL h (List.range k)).length ≤ k := by
  simp only [namesL, List.length_map]
  have := List.length_filter_le h (List.range k)
  simpa using this
theorem nm_isP (p : Nat) (hp : p < 9) : isP (nm p) = true ∧ pidx (nm p) = p := by
  match p, hp with
  | 0, _ | 1, _ | 2, _ | 3, _ | 4, _ | 5, _ | 6, _ | 7, _ | 8, _ => decide +kernel
theorem namesW_congr {h g : Nat → Bool} (e : ∀ p, p < 9 → h p = g p) : namesW h = namesW g := by
  have : (List.range 9).filter h = (List.range 9).filter g := List.filter_congr fun p hp => e p (by simpa using hp)
  rw [namesW, namesW, namesL, namesL, this]
theorem rsH_rdH {xs : List Mv} (h : MV xs) (a : ByteArray) : namesW (rsH xs a) = namesW (rdH (tabOf xs) a) := by
  refine namesW_congr fun p hp => ?_
  have h1 := nm_isP p hp
  have h2 := srcM_place h h1.1
  rw [h1.2] at h2
  rw [rsH, rdH, h2]
end Go.PM
namespace Go.Proofs.YthgcoocgeekdnaaDoor
open Go.RowKit Go.PM

set_option maxRecDepth 100000 in
set_option maxHeartbeats 1000000 in
theorem readersFn_c (f : Nat → ByteArray) (a : ByteArray) (p : Nat) (hp : p < 9) (b1 b2 : Nat) (w : World) (h1 : At w b1 9 #[.string a]) (h2 : At w b2 102 (tabA f)) :
    Calls Tryd.prog 102 #[.int .i64 p, .pointer (some ⟨b1, 0, none⟩), .pointer (some ⟨b2, 0, none⟩)] w fun e w' => e = .returned (.bool (rdH f a p)) ∧ Below w.heap.size w w' := by
  have c1 := h1.cell 0
  have f1 := h1.frozen 0
  have l1 := h1.lt
  have l2 := h2.lt
  have hc : ∀ x : Ext w.heap.size w, x.val.cell? ⟨b1, 0, none⟩ = some (.string a) := fun x => (x.property.cell (p := ⟨b1, 0, none⟩) l1).trans (h1.cell 0)
  have hc0 : ∀ x : Ext w.heap.size w, x.val.cell? ⟨b2, 0, none⟩ = some (.string (f 0)) := fun x => (x.property.cell (p := ⟨b2, 0, none⟩) l2).trans (h2.cell 0)
  have hc1 : ∀ x : Ext w.heap.size w, x.val.cell? ⟨b2, 1, none⟩ = some (.string (f 1)) := fun x => (x.property.cell (p := ⟨b2, 1, none⟩) l2).trans (h2.cell 1)
  have hc2 : ∀ x : Ext w.heap.size w, x.val.cell? ⟨b2, 2, none⟩ = some (.string (f 2)) := fun x => (x.property.cell (p := ⟨b2, 2, none⟩) l2).trans (h2.cell 2)
  have hc3 : ∀ x : Ext w.heap.size w, x.val.cell? ⟨b2, 3, none⟩ = some (.string (f 3)) := fun x => (x.property.cell (p := ⟨b2, 3, none⟩) l2).trans (h2.cell 3)
  have hc4 : ∀ x : Ext w.heap.size w, x.val.cell? ⟨b2, 4, none⟩ = some (.string (f 4)) := fun x => (x.property.cell (p := ⟨b2, 4, none⟩) l2).trans (h2.cell 4)
  have hc5 : ∀ x : Ext w.heap.size w, x.val.cell? ⟨b2, 5, none⟩ = some (.string (f 5)) := fun x => (x.property.cell (p := ⟨b2, 5, none⟩) l2).trans (h2.cell 5)
  have hc6 : ∀ x : Ext w.heap.size w, x.val.cell? ⟨b2, 6, none⟩ = some (.string (f 6)) := fun x => (x.property.cell (p := ⟨b2, 6, none⟩) l2).trans (h2.cell 6)
  have hc7 : ∀ x : Ext w.heap.size w, x.val.cell? ⟨b2, 7, none⟩ = some (.string (f 7)) := fun x => (x.property.cell (p := ⟨b2, 7, none⟩) l2).trans (h2.cell 7)
  have hc8 : ∀ x : Ext w.heap.size w, x.val.cell? ⟨b2, 8, none⟩ = some (.string (f 8)) := fun x => (x.property.cell (p := ⟨b2, 8, none⟩) l2).trans (h2.cell 8)
  clear c1 f1
  have hbn : (∃ q, q = nm p) := ⟨_, rfl⟩
  obtain ⟨q, hq⟩ := hbn
  have hname : ∀ W : World, Calls Tryd.prog 98 #[.int .i64 p] W fun e w' => e = .returned (.string q) ∧ W = w' := fun W => by rw [hq]; exact name_c p hp W
  have HR := Lib.hid (show rdH f a p = (decide (q ≠ a) && decide (srcT f p = a)) by rw [hq]; rfl)
  clear hq
  have HS := Lib.hid (fun W => source_c f p hp W)
  rcases Bool.eq_false_or_eq_true (q.toList == a.toList) with hd | hd
  · go_enter Tryd.func102, Tryd.ntmps102
    go_wp2
    refine wp_region_ext w.heap.size (by kernel_rfl) (by kernel_rfl) ?_
    repeat (go_big_quiet_step (first | (go_at_call 98; exact ext_same _ (hname _)) | (go_at_call 97; exact ext_call _ (Nat.le_refl _) (HS.out _))))
    refine wpQuiet_nil ?_
    intro w2 hw'
    obtain ⟨xw, hxw⟩ := hw'
    have hb2 := xw.property
    rw [← hxw] at hb2
    clear hxw xw hc0 hc1 hc2 hc3 hc4 hc5 hc6 hc7 hc8 hc hname HS
    go_wp2
    go_ret
    refine ⟨?_, hb2⟩
    rw [HR.out]
    have : q = a := by rw [beq_str, decide_eq_true_eq] at hd; exact hd
    rw [this]; simp
  · go_enter Tryd.func102, Tryd.ntmps102
    go_wp2
    refine wp_region_ext w.heap.size (by kernel_rfl) (by kernel_rfl) ?_
    repeat (go_big_quiet_step (first | (go_at_call 98; exact ext_same _ (hname _)) | (go_at_call 97; exact ext_call _ (Nat.le_refl _) (HS.out _))))
    refine wpQuiet_nil ?_
    intro w2 hw'
    obtain ⟨xw, hxw⟩ := hw'
    have hb2 := xw.property
    rw [← hxw] at hb2
    clear hxw xw hc0 hc1 hc2 hc3 hc4 hc5 hc6 hc7 hc8 hc hname HS
    go_wp2
    go_ret
    refine ⟨?_, hb2⟩
    rw [HR.out]
    have : ¬ q = a := by rw [beq_str, decide_eq_false_iff_not] at hd; exact hd
    rw [beq_str]; simp [this]
def rdrs (xs : List Mv) (a : ByteArray) : ByteArray := namesW (rdH (tabOf xs) a)
set_option maxRecDepth 100000 in
set_option maxHeartbeats 1000000 in
theorem readers_c (f : Nat → ByteArray) (a : ByteArray) (w : World) :
    Calls Tryd.prog 80 #[tabX f, .string a] w fun e w' => e = .returned (.string (namesW (rdH f a))) ∧ Below w.heap.size w w' := by
  go_enter Tryd.func80, Tryd.ntmps80
  go_wp2_with fail
  have q1 : At ((w.alloc (.cells (tabA f) 102)).alloc (.cells #[.string a] 9)) w.heap.size 102 (tabA f) := (At.new w _ _).alloc _
  have q2 : At ((w.alloc (.cells (tabA f) 102)).alloc (.cells #[.string a] 9)) (w.heap.size + 1) 9 #[.string a] := by
    have := At.new (w.alloc (.cells (tabA f) 102)) 9 #[.string a]
    rwa [World.size_alloc] at this
  have b0 : Below w.heap.size w ((w.alloc (.cells (tabA f) 102)).alloc (.cells #[.string a] 9)) := by (repeat' (first | (with_reducible exact Below.refl _ _) | (with_reducible assumption) | (with_reducible refine Below.alloc ?_ ?_ _) | (with_reducible refine Below.drew ?_) | (with_reducible refine Below.setCell ?_ ?_ _) | (with_reducible exact Nat.le_refl _) | omega | ((repeat (first | rewrite [World.size_alloc] | rewrite [World.size_setCell] | rewrite [World.size_drew])); omega) | (simp; omega) | (simp; done)))
  have z0 := b0.size
  refine (names_c 102 #[.pointer (some ⟨w.heap.size + 1, 0, none⟩), .pointer (some ⟨w.heap.size, 0, none⟩)] (rdH f a) _ (fun _ _ => rfl) (fun p hp W hW => ?_)).mono ?_
  · exact readersFn_c f a p hp _ _ W (q2.keep hW) (q1.keep hW)
  · rintro e w3 ⟨rfl, hb3⟩
    have b3 := b0.trans (hb3.mono z0)
    clear q1 q2 hb3
    go_wp2
    go_ret
    exact ⟨rfl, b3⟩
def namesS (h : Nat → Bool) (k : Nat) : ByteArray := ⟨(namesL h (List.range k)).toArray⟩
theorem namesS_size (h : Nat → Bool) (k : Nat) : (namesS h k).size ≤ k := by
  have := namesL_size h k
  simpa [namesS, ByteArray.size] using this
theorem namesS_yes (h : Nat → Bool) (k : Nat) (hk : h k = true) : namesS h k ++ nm k = namesS h (k + 1) := by
  apply ByteArray.ext
  rw [ByteArray.data_append, namesS, namesS, namesL_succ, if_pos hk]
  simp [nm]
theorem namesS_no (h : Nat → Bool) (k : Nat) (hk : h k = false) : namesS h k = namesS h (k + 1) := by
  rw [namesS, namesS, namesL_succ, if_neg (by rw [hk]; decide)]

set_option maxRecDepth 100000 in
set_option maxHeartbeats 1000000 in
theorem l1Readers_c (xs : List Mv) (v : Value) (a : ByteArray) (w : World) (hx : RdM w v xs) :
    Calls Tryd.prog 110 #[v, .string a] w fun e w' => e = .returned (.string (namesW (rsH xs a))) ∧ Below w.heap.size w w' := by
  have HN : Hid (∀ q, q < 9 → (ByteArray.mk #[97, 98, 99, 100, 101, 102, 65, 66, 67]).extract q (q+1) = nm q) := by
    show ∀ q, _
    intro q hq
    match q, hq with
    | 0, _ | 1, _ | 2, _ | 3, _ | 4, _ | 5, _ | 6, _ | 7, _ | 8, _ => decide +kernel
  have HS := Lib.hid (fun W (hW : RdM W v xs) (p : Nat) => l1Source_c xs v (nm p) W hW)
  have HX := Lib.hid (fun W (hW : Below w.heap.size w W) => hx.below hW)
  go_enter Tryd.func110, Tryd.ntmps110
  go_wp2
  go_loopw [5, 8] (fun o i wr => ∃ (k : Nat), k ≤ 9 ∧ i = .int .i64 k ∧ o = .string (namesS (rsH xs a) k) ∧ Below w.heap.size w wr) (fun _ i _ => 9 - (intOf i).toNat)
  case atStart => exact ⟨0, by omega, rfl, rfl, Below.refl _ _⟩
  case round =>
    obtain ⟨k, hk, rfl, rfl, hb⟩ := hrel
    have hbs := hb.size
    by_cases hlt : k < 9
    · have hex := HN.out k hlt
      have hsz := namesS_size (rsH xs a) k
      have hns : (nm k).size = 1 := rfl
      have hxr := HX.out wr hb
      have HR := Lib.hid (show rsH xs a k = (decide (nm k ≠ a) && decide (srcM xs (nm k) = a)) from rfl)
      have HY := Lib.hid (namesS_yes (rsH xs a) k)
      have HZ := Lib.hid (namesS_no (rsH xs a) k)
      have hcall := HS.out wr hxr k
      have HC := Lib.hid hcall
      clear hcall
      generalize srcM xs (nm k) = sk at *
      generalize nm k = q at *
      generalize namesS (rsH xs a) k = tk at *
      rcases Bool.eq_false_or_eq_true (q.toList == a.toList) with hd | hd
      · go_wp2
        go_roundw
        case rel =>
          have e1 : rsH xs a k = false := by rw [HR.out]; rw [beq_str, decide_eq_true_eq] at hd; simp [hd]
          exact ⟨k + 1, by omega, by go_num, by rw [HZ.out e1], by (repeat' (first | (with_reducible exact Below.refl _ _) | (with_reducible assumption) | (with_reducible refine Below.alloc ?_ ?_ _) | (with_reducible refine Below.drew ?_) | (with_reducible refine Below.setCell ?_ ?_ _) | (with_reducible exact Nat.le_refl _) | omega | ((repeat (first | rewrite [World.size_alloc] | rewrite [World.size_setCell] | rewrite [World.size_drew])); omega) | (simp; omega) | (simp; done)))⟩
        case measure => simp [intOf]; omega
      · have hn1 : q ≠ a := by rw [beq_str, decide_eq_false_iff_not] at hd; exact hd
        have HN1 := Lib.hid hn1
        clear hn1
        rcases Bool.eq_false_or_eq_true (sk.toList == a.toList) with hd2 | hd2
        · go_wp2_with (go_at_call 90; refine HC.out.mono ?_; rintro e w2 ⟨rfl, hb2⟩)
          go_roundw
          case rel =>
            have e1 : rsH xs a k = true := by rw [HR.out]; rw [beq_str, decide_eq_true_eq] at hd2; simp [hd2, HN1.out]
            exact ⟨k + 1, by omega, by go_num, by rw [HY.out e1], hb.trans (hb2.mono hbs)⟩
          case measure => simp [intOf]; omega
        · go_wp2_with (go_at_call 90; refine HC.out.mono ?_; rintro e w2 ⟨rfl, hb2⟩)
          go_roundw
          case rel =>
            have e1 : rsH xs a k = false := by rw [HR.out]; rw [beq_str, decide_eq_false_iff_not] at hd2; simp [hd2]
            exact ⟨k + 1, by omega, by go_num, by rw [HZ.out e1], hb.trans (hb2.mono hbs)⟩
          case measure => simp [intOf]; omega
    · have hk9 : k = 9 := by omega
      subst hk9
      go_wp2
      go_ret
      exact ⟨rfl, hb⟩
end Go.Proofs.YthgcoocgeekdnaaDoor
