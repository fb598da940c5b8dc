import Derived.Test.YtmifmfljiaoeaabBusy
namespace Go.PM
open Go.RowKit
def leafH (f : Nat → ByteArray) (p : Nat) : Bool := decide (srcT f p ≠ nm p) && decide (namesW (rdH f (nm p)) = emp)
def leafM (xs : List Mv) (m : Mv) : Bool := decide (namesW (rsH xs m.1) = emp)
def lvB (xs : List Mv) (ms : List Mv) : ByteArray := ⟨((ms.filter (leafM xs)).flatMap fun m => m.1.data.toList).toArray⟩
theorem lvB_yes (xs ms : List Mv) (m : Mv) (h : leafM xs m = true) : lvB xs (ms ++ [m]) = lvB xs ms ++ m.1 := by
  apply ByteArray.ext
  rw [ByteArray.data_append]
  simp [lvB, h]
theorem lvB_no (xs ms : List Mv) (m : Mv) (h : leafM xs m = false) : lvB xs (ms ++ [m]) = lvB xs ms := by
  simp [lvB, h]
def leavesB (xs : List Mv) : ByteArray := namesW (leafH (tabOf xs))
theorem lvB_all {xs : List Mv} (h : MV xs) : lvB xs (busyF xs 9) = leavesB xs := by
  unfold lvB leavesB namesW namesL busyF
  rw [List.filter_map, List.flatMap_map, List.filter_filter]
  have e1 : ((List.range 9).filter fun p => (leafM xs ∘ fun p => (nm p, srcM xs (nm p))) p && busyH xs p) = (List.range 9).filter (leafH (tabOf xs)) := by
    refine List.filter_congr fun p hp => ?_
    have hp9 : p < 9 := by simpa using hp
    show (leafM xs (nm p, srcM xs (nm p)) && busyH xs p) = leafH (tabOf xs) p
    unfold leafM leafH busyH
    rw [rsH_rdH h, srcM_nm h hp9, Bool.and_comm]
  rw [e1]
  have e2 : ∀ l : List Nat, (l.flatMap fun a => (nm a, srcM xs (nm a)).1.data.toList) = l.map (placesL.getD · 0) := by
    intro l
    induction l with
    | nil => rfl
    | cons a l ih => rw [List.flatMap_cons, ih]; rfl
  rw [e2]
theorem emp_iff (s : ByteArray) : s.toList.isEmpty = decide (s = emp) := by
  rw [ByteArray.toList_eq]
  by_cases h : s = emp
  · subst h; simp
  · cases hl : s.data.toList with
    | nil => exact absurd (Go.WideShapes.bytes_inj (by rw [hl])) h
    | cons a l => simp [h]
theorem busyF_one (xs : List Mv) (k : Nat) (hk : k < (busyF xs 9).length) : (busyF xs 9)[k].1.size = 1 := by
  have := List.getElem_mem hk
  unfold busyF at this
  obtain ⟨p, _, e⟩ := List.mem_map.1 this
  have : (busyF xs 9)[k].1 = nm p := by
    have : (busyF xs 9)[k] = (nm p, srcM xs (nm p)) := e.symm
    rw [this]
  rw [this]; rfl
end Go.PM
namespace Go.Proofs.Ytmifmfljiaoeaab
open Go.RowKit Go.PM

set_option maxRecDepth 100000 in
set_option maxHeartbeats 1000000 in
theorem leafFn_c (f : Nat → ByteArray) (p : Nat) (hp : p < 9) (b2 : Nat) (w : World) (h2 : At w b2 66 (tabA f)) :
    Calls Try.prog 124 #[.int .i64 p, .pointer (some ⟨b2, 0, none⟩)] w fun e w' => e = .returned (.bool (leafH f p)) ∧ Below w.heap.size w w' := by
  have l2 := h2.lt
  have hc0 : ∀ x : Ext w.heap.size w, x.val.cell? ⟨b2, 0, none⟩ = some (.string (f 0)) := fun x => (x.property.cell (p := ⟨b2, 0, none⟩) l2).trans (h2.cell 0)
  have hc1 : ∀ x : Ext w.heap.size w, x.val.cell? ⟨b2, 1, none⟩ = some (.string (f 1)) := fun x => (x.property.cell (p := ⟨b2, 1, none⟩) l2).trans (h2.cell 1)
  have hc2 : ∀ x : Ext w.heap.size w, x.val.cell? ⟨b2, 2, none⟩ = some (.string (f 2)) := fun x => (x.property.cell (p := ⟨b2, 2, none⟩) l2).trans (h2.cell 2)
  have hc3 : ∀ x : Ext w.heap.size w, x.val.cell? ⟨b2, 3, none⟩ = some (.string (f 3)) := fun x => (x.property.cell (p := ⟨b2, 3, none⟩) l2).trans (h2.cell 3)
  have hc4 : ∀ x : Ext w.heap.size w, x.val.cell? ⟨b2, 4, none⟩ = some (.string (f 4)) := fun x => (x.property.cell (p := ⟨b2, 4, none⟩) l2).trans (h2.cell 4)
  have hc5 : ∀ x : Ext w.heap.size w, x.val.cell? ⟨b2, 5, none⟩ = some (.string (f 5)) := fun x => (x.property.cell (p := ⟨b2, 5, none⟩) l2).trans (h2.cell 5)
  have hc6 : ∀ x : Ext w.heap.size w, x.val.cell? ⟨b2, 6, none⟩ = some (.string (f 6)) := fun x => (x.property.cell (p := ⟨b2, 6, none⟩) l2).trans (h2.cell 6)
  have hc7 : ∀ x : Ext w.heap.size w, x.val.cell? ⟨b2, 7, none⟩ = some (.string (f 7)) := fun x => (x.property.cell (p := ⟨b2, 7, none⟩) l2).trans (h2.cell 7)
  have hc8 : ∀ x : Ext w.heap.size w, x.val.cell? ⟨b2, 8, none⟩ = some (.string (f 8)) := fun x => (x.property.cell (p := ⟨b2, 8, none⟩) l2).trans (h2.cell 8)
  have HN := Lib.hid (fun W => name_c p hp W)
  have HSS := Lib.hid (fun W => source_c f p hp W)
  have HRR := Lib.hid (fun W => readers_c f (nm p) W)
  have HH := Lib.hid (show leafH f p = (decide (srcT f p ≠ nm p) && decide (namesW (rdH f (nm p)) = emp)) from rfl)
  generalize namesW (rdH f (nm p)) = rr at *
  generalize srcT f p = sr at *
  generalize nm p = q at *
  rcases Bool.eq_false_or_eq_true (sr.toList == q.toList) with hd | hd
  all_goals
    go_enter Try.func124, Try.ntmps124
    go_wp2
    refine wp_region_ext w.heap.size (by kernel_rfl) (by kernel_rfl) ?_
    repeat (go_big_quiet_step (first | (go_at_call 82; exact ext_same _ (HN.out _)) | (go_at_call 91; exact ext_call _ (Nat.le_refl _) (HSS.out _)) | (go_at_call 90; exact ext_call _ (Nat.le_refl _) (HRR.out _))))
    refine wpQuiet_nil ?_
    intro w2 hw'
    obtain ⟨xw, hxw⟩ := hw'
    have hb2 := xw.property
    rw [← hxw] at hb2
    clear hxw xw hc0 hc1 hc2 hc3 hc4 hc5 hc6 hc7 hc8
    go_wp2
    go_ret
    refine ⟨?_, hb2⟩
    rw [HH.out]
  · have : sr = q := by rw [beq_str, decide_eq_true_eq] at hd; exact hd
    rw [this]; simp
  · have : ¬ sr = q := by rw [beq_str, decide_eq_false_iff_not] at hd; exact hd
    rw [emp_iff]; simp [this]
set_option maxRecDepth 100000 in
theorem leaves_c (f : Nat → ByteArray) (w : World) :
    Calls Try.prog 84 #[tabX f] w fun e w' => e = .returned (.string (namesW (leafH f))) ∧ Below w.heap.size w w' := by
  go_enter Try.func84, Try.ntmps84
  go_wp2_with fail
  have q2 : At (w.alloc (.cells (tabA f) 66)) w.heap.size 66 (tabA f) := At.new w _ _
  refine (names_c 124 #[.pointer (some ⟨w.heap.size, 0, none⟩)] (leafH f) _ (fun _ _ => rfl) (fun p hp W hW => ?_)).mono ?_
  · exact leafFn_c f p hp _ W (q2.keep hW)
  · rintro e w3 ⟨rfl, hb3⟩
    have b3 := ((Below.refl w.heap.size w).alloc (Nat.le_refl _) (.cells (tabA f) 66)).trans (hb3.mono (by simp [World.size_alloc]))
    clear q2 hb3
    go_wp2
    go_ret
    exact ⟨rfl, b3⟩
set_option maxRecDepth 100000 in
theorem imLeavesOf_c (xs : List Mv) (v : Value) (w : World) (hx : RdM w v xs) :
    Calls Try.prog 37 #[v] w fun e w' => e = .returned (.tuple #[.string (okS (mvalid xs) (leavesB xs)), .bool (mvalid xs)]) ∧ Below w.heap.size w w' := by
  have HO : Hid (∀ b s, okS b s = if b then s else ⟨#[]⟩) := fun _ _ => rfl
  by_cases h1 : MV xs
  · have hm : mvalid xs = true := by simpa [mvalid] using h1
    go_enter Try.func37, Try.ntmps37
    go_wp2_with fail
    refine (tableOf_yes xs h1 v _ hx).mono ?_
    rintro e w1 ⟨rfl, hb1⟩
    have hs1 := hb1.size
    go_wp2_with fail
    refine (leaves_c (tabOf xs) _).mono ?_
    rintro e w3 ⟨rfl, hb3⟩
    have b3 := (hb1.alloc hs1 (.cells (tabA (tabOf xs)) 66)).trans (hb3.mono (by simp [World.size_alloc]; omega))
    clear hb3
    go_wp2
    go_ret2
    exact ⟨by rw [hm, HO.out]; rfl, b3⟩
  · have hm : mvalid xs = false := by simpa [mvalid] using h1
    go_enter Try.func37, Try.ntmps37
    go_wp2_with fail
    refine (tableOf_no xs h1 v _ hx).mono ?_
    rintro e w1 ⟨rfl, hb1⟩
    have hs1 := hb1.size
    go_wp2
    go_ret2
    exact ⟨by rw [hm, HO.out]; rfl, by (repeat' (first | (with_reducible exact Below.refl _ _) | (with_reducible assumption) | (with_reducible refine Below.alloc ?_ ?_ _) | (with_reducible refine Below.drew ?_) | (with_reducible refine Below.setCell ?_ ?_ _) | (with_reducible exact Nat.le_refl _) | omega | ((repeat (first | rewrite [World.size_alloc] | rewrite [World.size_setCell] | rewrite [World.size_drew])); omega) | (simp; omega) | (simp; done)))⟩

set_option maxRecDepth 100000 in
set_option maxHeartbeats 1000000 in
theorem spLeavesOf_c (xs : List Mv) (v : Value) (w : World) (hx : RdM w v xs) (hz : ∀ m ∈ xs, m.1.size ≤ 9223372036854775807 ∧ m.2.size ≤ 9223372036854775807) (hn' : xs.length ≤ 1048576) :
    Calls Try.prog 38 #[v] w fun e w' => e = .returned (.tuple #[.string (okS (mvalid xs) (leavesB xs)), .bool (mvalid xs)]) ∧ Below w.heap.size w w' := by
  have HO : Hid (∀ b s, okS b s = if b then s else ⟨#[]⟩) := fun _ _ => rfl
  rcases Bool.eq_false_or_eq_true (mvalid xs) with h1 | h1
  · have HALL := Lib.hid (lvB_all (xs := xs) (by simpa [mvalid] using h1))
    have HX := Lib.hid (fun W (hW : Below w.heap.size w W) => hx.below hW)
    have HRR := Lib.hid (fun W (hW : RdM W v xs) a => l1Readers_c xs v a W hW)
    have HONE := Lib.hid (busyF_one xs)
    have hlen := busyF_len xs 9
    go_enter Try.func38, Try.ntmps38
    go_wp2_with fail
    refine (spMovesValid_c xs v _ hx hz hn').mono ?_
    rintro e w1 ⟨he, hb1⟩
    rw [h1] at he
    subst he
    have hs1 := hb1.size
    have hx1 := hx.below hb1
    go_wp2_with fail
    refine (l1Busy_c xs v _ hx1).mono ?_
    rintro e w2 ⟨v', rfl, ho, hb2⟩
    have hb12 := hb1.trans (hb2.mono hs1)
    have hr2 : RdM w2 v' (busyF xs 9) := Rd.of_own ho
    obtain ⟨A, cap, rfl, hn, hc, hcell⟩ := hr2.open
    clear ho hb2 hr2
    generalize busyF xs 9 = bs at *
    go_wp2
    go_loopw [4, 6, 13] (fun o _ i wr => ∃ k : Nat, k ≤ bs.length ∧ i = .int .i64 k ∧ o = .string (lvB xs (bs.take k)) ∧ (lvB xs (bs.take k)).size ≤ k ∧ Below w2.heap.size w2 wr) (fun _ _ i _ => bs.length - (RowKit.intOf i).toNat)
    case atStart => exact ⟨0, by omega, rfl, rfl, Nat.le_refl _, Below.refl _ _⟩
    case round =>
      obtain ⟨k, hk, rfl, rfl, hsz, hb⟩ := hrel
      have hbs := hb.size
      by_cases hlt : k < bs.length
      · obtain ⟨b, off, rfl, hbl, hc1, hc2⟩ := hcell k hlt
        have hd1 := (hb.cell (p := ⟨b, off + k * 2, none⟩) hbl).trans hc1
        have hd2 := (hb.cell (p := ⟨b, off + k * 2 + 1, none⟩) hbl).trans hc2
        have hone := HONE.out k hlt
        have HY := Lib.hid (lvB_yes xs (bs.take k) bs[k])
        have HN := Lib.hid (lvB_no xs (bs.take k) bs[k])
        have HTK := Lib.hid (take_snoc bs k hlt)
        have HLM := Lib.hid (show leafM xs bs[k] = decide (namesW (rsH xs bs[k].1) = emp) from rfl)
        have hw2 := (hb12.trans (hb.mono hb12.size)).alloc (by have := hb12.size; omega) (.cells #[.string bs[k].1, .string bs[k].2] 38)
        have hxr := HX.out _ hw2
        have hrr := HRR.out _ hxr bs[k].1
        clear hc1 hc2 hcell
        generalize namesW (rsH xs bs[k].1) = rr at *
        generalize hxa : bs[k].1 = x1 at *
        generalize bs[k].2 = x2 at *
        have HRX := Lib.hid hrr
        have HXA := Lib.hid hxa
        clear hrr hxa hxr hw2
        by_cases hrr : rr = emp
        · subst hrr
          go_wp2_with fail
          refine HRX.out.mono ?_
          rintro e w3 ⟨rfl, hb3⟩
          have hbw : Below w2.heap.size w2 w3 := (hb.alloc hbs _).trans (hb3.mono (by simp; omega))
          have ha0 : At (wr.alloc (.cells #[.string x1, .string x2] 38)) wr.heap.size 38 #[.string x1, .string x2] := At.new _ _ _
          have ha1 := ha0.keep hb3
          have hac : w3.cell? ⟨wr.heap.size, 0, none⟩ = some (.string x1) := ha1.cell 0
          have hal := ha1.lt
          have hll : leafM xs bs[k] = true := by rw [HLM.out]; simp
          have hst := HY.out hll
          rw [← HTK.out] at hst
          have HST := Lib.hid hst
          clear hb3 ha0 ha1 hst
          go_wp2
          go_roundw
          case rel => exact ⟨k + 1, by omega, by go_num, by rw [HST.out], by rw [HST.out, ByteArray.size_append]; omega, hbw⟩
          case measure => simp [RowKit.intOf]; omega
        · have hne : rr.toList.isEmpty = false := by rw [emp_iff]; simpa using hrr
          have hll : leafM xs bs[k] = false := by rw [HLM.out]; simpa using hrr
          have hst := HN.out hll
          rw [← HTK.out] at hst
          have HST := Lib.hid hst
          clear hst hll hrr
          go_wp2_with fail
          refine HRX.out.mono ?_
          rintro e w3 ⟨rfl, hb3⟩
          have hbw : Below w2.heap.size w2 w3 := (hb.alloc hbs _).trans (hb3.mono (by simp; omega))
          clear hb3
          go_wp2
          go_roundw
          case rel => exact ⟨k + 1, by omega, by go_num, by rw [HST.out], by rw [HST.out]; omega, hbw⟩
          case measure => simp [RowKit.intOf]; omega
      · have hk' : k = bs.length := by omega
        have hT : lvB xs (bs.take k) = leavesB xs := by rw [hk', List.take_of_length_le (Nat.le_refl _)]; exact HALL.out
        have HT := Lib.hid hT
        have hbw := hb12.trans (hb.mono hb12.size)
        clear hT hk'
        go_wp2
        go_ret2
        exact ⟨by rw [HT.out, h1, HO.out]; rfl, hbw⟩
  · go_enter Try.func38, Try.ntmps38
    go_wp2_with fail
    refine (spMovesValid_c xs v _ hx hz hn').mono ?_
    rintro e w1 ⟨rfl, hb1⟩
    go_wp2
    go_ret2
    exact ⟨by rw [h1, HO.out]; rfl, hb1⟩
end Go.Proofs.Ytmifmfljiaoeaab
