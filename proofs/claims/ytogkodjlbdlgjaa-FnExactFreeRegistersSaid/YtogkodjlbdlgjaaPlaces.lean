import Derived.Test.YtogkodjlbdlgjaaNames
import Derived.Test.YtogkodjlbdlgjaaSource
import Derived.Test.YtogkodjlbdlgjaaNamesIn
import Derived.Test.YtogkodjlbdlgjaaSort
import Derived.BigQuiet
namespace Go.PM
open Go.RowKit
def nmd (xs : List Mv) : List UInt8 := xs.flatMap fun m => m.1.data.toList ++ m.2.data.toList
def nmB (xs : List Mv) : ByteArray := ⟨(nmd xs).toArray⟩
def piH (xs : List Mv) (p : Nat) : Bool := decide (placesL.getD p 0 ∈ nmd xs)
theorem nmd_snoc (l : List Mv) (m : Mv) : nmd (l ++ [m]) = nmd l ++ (m.1.data.toList ++ m.2.data.toList) := by simp [nmd]
theorem any_snoc (l : List Mv) (m : Mv) (f : Mv → Bool) : (l ++ [m]).any f = (l.any f || f m) := by simp
theorem nmB_step (xs : List Mv) (k : Nat) (hk : k < xs.length) : nmB (xs.take k) ++ (xs[k].1 ++ xs[k].2) = nmB (xs.take (k + 1)) := by
  apply ByteArray.ext
  rw [ByteArray.data_append, ByteArray.data_append, nmB, nmB, take_snoc xs k hk, nmd_snoc]
  generalize nmd (xs.take k) = L
  simp
theorem nmB_size {xs : List Mv} (h : MV xs) (k : Nat) : (nmB (xs.take k)).size ≤ 2 * k := by
  induction k with
  | zero => exact Nat.le_refl _
  | succ k ih =>
    by_cases hk : k < xs.length
    · rw [← nmB_step xs k hk]
      have h1 := h.1 xs[k] (List.getElem_mem hk)
      unfold mok at h1; rw [Bool.and_eq_true] at h1
      have h2 := isP_size h1.1
      have h3 := isS_size h1.2
      simp only [ByteArray.size_append]; omega
    · rw [List.take_of_length_le (by omega)] at ih ⊢
      omega
def inMv (p : Nat) (m : Mv) : Bool := decide (m.1 = nm p) || decide (m.2 = nm p)
def inM (xs : List Mv) (p k : Nat) : Bool := (xs.take k).any (inMv p)
theorem inM_succ (xs : List Mv) (p k : Nat) (hk : k < xs.length) : inM xs p (k + 1) = (inM xs p k || decide (xs[k].1 = nm p) || decide (xs[k].2 = nm p)) := by
  rw [inM, inM, take_snoc xs k hk, any_snoc, inMv, Bool.or_assoc]
theorem inM_zero (xs : List Mv) (p : Nat) : inM xs p 0 = false := by simp [inM]
theorem one_mem {a : ByteArray} (h : a.size = 1) (p : Nat) : placesL.getD p 0 ∈ a.data.toList ↔ a = nm p := by
  obtain ⟨c, rfl⟩ := one_of_size h
  constructor
  · intro h'
    simp at h'
    rw [nm, ← h']; simp
  · intro h'
    rw [h']; simp [nm]
theorem inM_full {xs : List Mv} (h : MV xs) (p : Nat) : inM xs p xs.length = piH xs p := by
  rw [inM, List.take_length, piH, Bool.eq_iff_iff, List.any_eq_true, decide_eq_true_eq, nmd, List.mem_flatMap]
  have key : ∀ m ∈ xs, inMv p m = true ↔ placesL.getD p 0 ∈ m.1.data.toList ++ m.2.data.toList := fun m hm => by
    have h1 := h.1 m hm
    unfold mok at h1; rw [Bool.and_eq_true] at h1
    rw [List.mem_append, one_mem (isP_size h1.1), one_mem (isS_size h1.2), inMv, Bool.or_eq_true, decide_eq_true_eq, decide_eq_true_eq]
  constructor
  · rintro ⟨m, hm, e⟩; exact ⟨m, hm, (key m hm).1 e⟩
  · rintro ⟨m, hm, e⟩; exact ⟨m, hm, (key m hm).2 e⟩
theorem nmd_sort {xs : List Mv} (h : MV xs) : piH (mvT (tabOf xs) (List.range 9)) = piH xs := by
  rw [← sortM_mvT h]
  have hm : mvalid xs = true := by simpa [mvalid] using h
  have hx : ∀ m, m ∈ sortM xs ↔ m ∈ xs := fun m => by
    rw [sortM, if_pos hm, sortO]
    simp only [List.mem_flatMap, List.mem_range, List.mem_filter, atP, decide_eq_true_eq]
    constructor
    · rintro ⟨p, _, h1, _⟩; exact h1
    · intro h1
      have h2 := h.1 m h1
      unfold mok at h2; rw [Bool.and_eq_true] at h2
      have h3 := pidx_spec h2.1
      exact ⟨_, h3.1, h1, h3.2.symm⟩
  funext p
  unfold piH nmd
  rw [decide_eq_decide, List.mem_flatMap, List.mem_flatMap]
  constructor
  · rintro ⟨m, h1, h2⟩; exact ⟨m, (hx m).1 h1, h2⟩
  · rintro ⟨m, h1, h2⟩; exact ⟨m, (hx m).2 h1, h2⟩
theorem nmB_snoc (l : List Mv) (m : Mv) : nmB l ++ (m.1 ++ m.2) = nmB (l ++ [m]) := by
  apply ByteArray.ext
  rw [ByteArray.data_append, ByteArray.data_append, nmB, nmB, nmd_snoc]
  simp
theorem mv_size {xs : List Mv} (h : MV xs) : ∀ m ∈ mvT (tabOf xs) (List.range 9), m.1.size = 1 ∧ m.2.size = 1 := by
  intro m hm
  rw [← sortM_mvT h, sortM, if_pos (by simpa [mvalid] using h), sortO] at hm
  obtain ⟨p, _, h1⟩ := List.mem_flatMap.1 hm
  have h2 := h.1 m (List.mem_filter.1 h1).1
  unfold mok at h2; rw [Bool.and_eq_true] at h2
  exact ⟨isP_size h2.1, isS_size h2.2⟩
theorem nmB_len {l : List Mv} (h : ∀ m ∈ l, m.1.size = 1 ∧ m.2.size = 1) : (nmB l).size ≤ 2 * l.length := by
  have : (nmB l).size = (nmd l).length := by simp [nmB, ByteArray.size]
  rw [this]
  induction l with
  | nil => exact Nat.le_refl _
  | cons m l ih =>
    have h1 := h m (by simp)
    have h2 := ih (fun x hx => h x (by simp [hx])) (by simp [nmB, ByteArray.size])
    have e : nmd (m :: l) = m.1.data.toList ++ m.2.data.toList ++ nmd l := by simp [nmd]
    rw [e, List.length_append, List.length_append, size_data, size_data, List.length_cons]
    omega
end Go.PM
namespace Go.Proofs.Ytogkodjlbdlgjaa
open Go.RowKit Go.PM
attribute [local go_sem] Oper.semAt_some

set_option maxRecDepth 100000 in
set_option maxHeartbeats 2000000 in
/-- To and From of the moves of a table -/
theorem tnames_c (t : Nat → ByteArray) (ht : ∀ m ∈ mvT t (List.range 9), m.1.size = 1 ∧ m.2.size = 1) (w : World) :
    Calls Try.prog 89 #[tabX t] w fun e w' => e = .returned (.string (nmB (mvT t (List.range 9)))) ∧ Below w.heap.size w w' := by
  have HNS := Lib.hid nmB_snoc
  refine (callsIn_wide (n := 5)).1 ?_
  refine callsIn_of_wp_marks Try.func89 rfl trivial ?_ rfl
  simp only [Try.ntmps89, List.size_toArray, List.length_cons, List.length_nil, Nat.reduceAdd, Nat.reduceSub, Array.replicate_succ, Array.replicate_zero, List.push_toArray, List.append_toArray, List.nil_append, List.cons_append]
  gi_wp2
  obtain ⟨W0, hW0⟩ : ∃ W0 : World, W0 = (w.alloc (.cells (tabA t) 106)).alloc (.cells #[.string ⟨#[]⟩] 9) := ⟨_, rfl⟩
  have hS0 : W0.heap.size = w.heap.size + 2 := by rw [hW0]; simp only [World.size_alloc]
  have hB0 : Below w.heap.size w W0 := by rw [hW0]; (repeat' (first | (with_reducible exact Below.refl _ _) | (with_reducible assumption) | (with_reducible refine Below.alloc ?_ ?_ _) | (with_reducible refine Below.drew ?_) | (with_reducible refine Below.setCell ?_ ?_ _) | (with_reducible exact Nat.le_refl _) | omega | ((repeat (first | rewrite [World.size_alloc] | rewrite [World.size_setCell] | rewrite [World.size_drew])); omega) | (simp; omega) | (simp; done)))
  have hA0 : At W0 (w.heap.size + 1) 9 #[.string ⟨#[]⟩] := by
    rw [hW0]; have := At.new (w.alloc (.cells (tabA t) 106)) 9 #[.string ⟨#[]⟩]
    rwa [World.size_alloc] at this
  rw [← hW0]
  clear hW0
  refine range_law2 (F := Fence.wide) (gf := 118) (lf := #[tabX t]) (lb := #[]) rfl (by decide) rfl trivial (fun args w => rfl) (encs := fun m : Mv => #[.agg #[.string m.1, .string m.2]]) (xs := mvT t (List.range 9)) (κ := 2)
    (moves_iter t) (fun _ => rfl)
    (fun pre W => At W (w.heap.size + 1) 9 #[.string (nmB pre)] ∧ Below w.heap.size w W)
    (fun _ _ _ => False) ?_ (fun _ => ownFrom_pure _ _) ?_
    (fun m a' W => ∃ b, At W b 65 #[.string m.1, .string m.2] ∧ a' = { tmps := #[tabX t, .pointer (some ⟨w.heap.size, 0, none⟩), .string ⟨#[]⟩, .pointer (some ⟨w.heap.size + 1, 0, none⟩), .pointer (some ⟨b, 0, none⟩), tabX t, .func (.func 118) #[tabX t] #[], .agg #[.string m.1, .string m.2], undef, undef, undef, undef, undef, undef, undef, undef], defers := [] }) ?_ ?_ ?_ ?_ ?_
  · rintro s A A' row ⟨k1, k3⟩ hg hr
    exact ⟨k1.turn hg (fun r e => (hr r e).2), k3.trans (below_grown hg k3.size (fun g e => by have := (hr g e).1; omega))⟩
  · exact ⟨hA0, hB0⟩
  · rintro m a' s A A' row ⟨b, k1, k2⟩ hg hr
    exact ⟨b, k1.turn hg (fun r e => (hr r e).2), k2⟩
  · intro l pre m W K hI hp hsz hK
    obtain ⟨k1, k3⟩ := hI
    have r1 : At (W.alloc (.cells #[.string m.1, .string m.2] 65)) (w.heap.size + 1) 9 #[.string (nmB pre)] ∧ Below w.heap.size w (W.alloc (.cells #[.string m.1, .string m.2] 65)) := ⟨k1.alloc _, k3.alloc k3.size _⟩
    have r2 := At.new W 65 #[.string m.1, .string m.2]
    have r3 : KeepsNew W0.heap.size W (W.alloc (.cells #[.string m.1, .string m.2] 65)) := KeepsNew.below ((Below.refl _ _).alloc (Nat.le_refl _) _)
    clear k1 k3
    gi_wp2
    exact hK _ _ r3 r1 ⟨_, r2, rfl⟩
  · rintro l pre m a' W ⟨k1, k3⟩ ⟨b, q1, rfl⟩ hp hsz
    have hlen := mvT_len t (List.IsPrefix.trans (List.prefix_append pre [m]) hp)
    have hz1 := ht m (hp.mem (List.mem_append_right _ (List.mem_singleton_self m)))
    have hz2 := nmB_len (l := pre) (fun x hx => ht x (hp.mem (List.mem_append_left _ hx)))
    have hzz : (nmB pre).size ≤ 18 := by omega
    have hz3 := hz1.1
    have hz4 := hz1.2
    clear hz1 hz2
    have c1 : W.cell? ⟨b, 0, none⟩ = some (.string m.1) := q1.cell 0
    have c2 : W.cell? ⟨b, 1, none⟩ = some (.string m.2) := q1.cell 1
    have c3 : W.cell? ⟨w.heap.size + 1, 0, none⟩ = some (.string (nmB pre)) := k1.cell 0
    have f3 := k1.frozen 0
    have hl1 := k1.lt
    have m1 : At (W.setCell ⟨w.heap.size + 1, 0, none⟩ (.string (nmB pre ++ (m.1 ++ m.2)))) (w.heap.size + 1) 9 #[.string (nmB pre ++ (m.1 ++ m.2))] := k1.set 0 _
    rw [HNS.out pre m] at m1
    have HE := Lib.hid (HNS.out pre m)
    have hb3 := k3.size
    clear q1 hp
    have HT2 : Hid (nmB (pre ++ [m]) = nmB (pre ++ [m])) := rfl
    revert HT2
    generalize hq2 : nmB (pre ++ [m]) = t2 at m1 HE
    intro HT2
    have HT3 := Lib.hid hq2
    clear HT2 hq2
    generalize m.1 = x1 at *
    generalize m.2 = x2 at *
    generalize nmB pre = t1 at *
    gi_wp2
    rw [HE.out]
    refine ⟨(KeepsOthers.setCell _ _ _).from _, ⟨by simp [World.size_setCell], fun x hx1 hx2 => heap_setCell_other _ _ _ _ (by simp; omega)⟩, ?_, k3.setCell (by simp) _⟩
    rw [HT3.out]
    exact m1
  · intro D W hD hI hd
    obtain ⟨k1, k3⟩ := hI
    have c3 : W.cell? ⟨w.heap.size + 1, 0, none⟩ = some (.string (nmB (mvT t (List.range 9)))) := k1.cell 0
    clear k1
    gi_wp2
    refine ⟨by simp, .inl ⟨D, _, rfl, run_takeDeferred hd, ?_⟩⟩
    exact ⟨_, results_tmp rfl _ _ _, rfl, k3.trans ⟨rfl, rfl, rfl, by simp [World.putObj], fun k hk => World.putObj_heap_other (by have := k3.size; omega)⟩⟩
  · intro _ _ _ _ _ _ hf
    exact hf.elim
def plcs (xs : List Mv) : ByteArray := namesW (piH xs)
set_option maxRecDepth 100000 in
set_option maxHeartbeats 1000000 in
theorem imPlacesIn_c (xs : List Mv) (v : Value) (w : World) (hx : RdM w v xs) :
    Calls Try.prog 34 #[v] w fun e w' => e = .returned (.tuple #[.string (okS (mvalid xs) (plcs xs)), .bool (mvalid xs)]) ∧ Below w.heap.size w w' := by
  have HO : Hid (∀ b s, okS b s = if b then s else ⟨#[]⟩) := fun _ _ => rfl
  by_cases h1 : MV xs
  · have HT := Lib.hid (tableOf_yes xs h1 v w hx)
    have HM := Lib.hid (show mvalid xs = true by simpa [mvalid] using h1)
    have HN := Lib.hid (fun W => tnames_c (tabOf xs) (mv_size h1) W)
    have HPL := Lib.hid (fun W => namesIn_c ⟨#[97, 98, 99, 100, 101, 102, 65, 66, 67]⟩ (nmB (mvT (tabOf xs) (List.range 9))) (by decide) W)
    have HPE : Hid (pickB (ByteArray.mk #[97, 98, 99, 100, 101, 102, 65, 66, 67]).data.toList (inTx (ByteArray.mk #[97, 98, 99, 100, 101, 102, 65, 66, 67]).data.toList (nmB (mvT (tabOf xs) (List.range 9))).data.toList) (ByteArray.mk #[97, 98, 99, 100, 101, 102, 65, 66, 67]).size = plcs xs) := by
      show _ = _
      have e : inTx placesL (nmB (mvT (tabOf xs) (List.range 9))).data.toList = piH (mvT (tabOf xs) (List.range 9)) := by funext p; simp [inTx, piH, nmB]
      show pickB placesL (inTx placesL (nmB (mvT (tabOf xs) (List.range 9))).data.toList) 9 = plcs xs
      rw [e, nmd_sort h1]; rfl
    clear h1 hx
    generalize tabOf xs = t at *
    generalize nmB (mvT t (List.range 9)) = nt at *
    go_enter Try.func34, Try.ntmps34
    go_wp2_with fail
    refine HT.out.mono ?_
    rintro e w1 ⟨rfl, hb1⟩
    have hs1 := hb1.size
    go_wp2_with fail
    refine (HN.out _).mono ?_
    rintro e w2 ⟨rfl, hb2⟩
    have hb3 := (hb1.alloc hs1 (.cells (tabA t) 106)).trans (hb2.mono (by simp; omega))
    clear hb2
    go_wp2_with (go_at_call 88; refine (HPL.out _).mono ?_; rintro e w' ⟨rfl, rfl⟩)
    go_ret2
    exact ⟨by rw [HM.out, HO.out, ← HPE.out]; rfl, hb3⟩
  · have HM := Lib.hid (show mvalid xs = false by simpa [mvalid] using h1)
    have HT := Lib.hid (tableOf_no xs h1 v w hx)
    clear h1 hx
    go_enter Try.func34, Try.ntmps34
    go_wp2_with fail
    refine HT.out.mono ?_
    rintro e w1 ⟨rfl, hb1⟩
    have hs1 := hb1.size
    go_wp2
    go_ret2
    exact ⟨by rw [HM.out, HO.out]; rfl, by (repeat' (first | (with_reducible exact Below.refl _ _) | (with_reducible assumption) | (with_reducible refine Below.alloc ?_ ?_ _) | (with_reducible refine Below.drew ?_) | (with_reducible refine Below.setCell ?_ ?_ _) | (with_reducible exact Nat.le_refl _) | omega | ((repeat (first | rewrite [World.size_alloc] | rewrite [World.size_setCell] | rewrite [World.size_drew])); omega) | (simp; omega) | (simp; done)))⟩
end Go.Proofs.Ytogkodjlbdlgjaa
