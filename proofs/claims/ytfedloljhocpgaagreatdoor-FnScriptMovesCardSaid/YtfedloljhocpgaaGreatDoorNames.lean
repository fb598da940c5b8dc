import Derived.Test.YtfedloljhocpgaaGreatDoorBelow
import Derived.Test.YtfedloljhocpgaaGreatDoorIm2
import Derived.RegionIn
namespace Go.PM
open Go.RowKit
def namesL (h : Nat → Bool) (ps : List Nat) : List UInt8 := (ps.filter h).map (placesL.getD · 0)
def namesW (h : Nat → Bool) : ByteArray := ⟨(namesL h (List.range 9)).toArray⟩
theorem keepsFrom_below {B : Nat} {W W' : World} (h : Below W.heap.size W W') : KeepsFrom B W W' :=
  ⟨h.size, fun k _ _ hk _ => (h.block k (Array.getElem?_eq_some_iff.1 hk).1).trans hk⟩
theorem namesL_len (h : Nat → Bool) (pre : List Nat) (p : Nat) (hp : pre ++ [p] <+: List.range 9) : (namesL h pre).length ≤ 9 := by
  have h1 : (namesL h pre).length ≤ pre.length := by
    simp only [namesL, List.length_map]
    exact List.length_filter_le _ _
  have h2 := hp.length_le
  simp at h2
  omega
theorem pre_len (pre : List Nat) (p : Nat) (h : pre ++ [p] <+: List.range 9) : pre.length = p ∧ p < 9 := by
  obtain ⟨t, ht⟩ := h
  have h1 := congrArg (fun l => l[pre.length]?) ht
  simp at h1
  have h2 := congrArg List.length ht
  simp at h2
  rw [List.getElem?_range (by omega)] at h1
  simp at h1
  omega
end Go.PM
namespace Go.Proofs.YtfedloljhocpgaaGreatDoor
open Go.RowKit Go.PM
attribute [local go_sem] Oper.semAt_some

set_option maxRecDepth 100000 in
set_option maxHeartbeats 2000000 in
theorem names_c (K : Nat) (cap : Array Value) (h : Nat → Bool) (w : World) (eK : ∀ args W, (callFunc K args).run Tryz.prog W = .ok (.enter K args) W)
    (hH : ∀ p, p < 9 → ∀ W, Below w.heap.size w W → Calls Tryz.prog K (#[.int .i64 (p : Int)] ++ cap) W fun e W' => e = .returned (.bool (h p)) ∧ Below W.heap.size W W') :
    Calls Tryz.prog 113 #[.func (.func K) #[] cap] w fun e w' => e = .returned (.string (namesW h)) ∧ Below w.heap.size w w' := by
  refine (callsIn_wide (n := 5)).1 ?_
  refine callsIn_of_wp_marks Tryz.func113 rfl trivial ?_ rfl
  simp only [Tryz.ntmps113, List.size_toArray, List.length_cons, List.length_nil, Nat.reduceAdd, Nat.reduceSub, Array.replicate_succ, Array.replicate_zero, List.push_toArray, List.append_toArray, List.nil_append, List.cons_append]
  gi_wp2
  refine range_law (F := Fence.wide) (gf := 56) (lf := #[.int .i64 9]) (lb := #[]) rfl (by decide) rfl trivial (fun args w => rfl) (encs := fun p : Nat => #[.int .i64 p]) (xs := List.range 9)
    (below_iter _ _ trivial rfl (by decide)) (fun _ => rfl)
    (fun pre W => Boxed W (w.heap.size + 1) 9 (.string ⟨(namesL h pre).toArray⟩) ∧ Boxed W w.heap.size 143 (.func (.func K) #[] cap) ∧ Below w.heap.size w W)
    (fun _ _ _ => False) ?_ (fun _ => ownFrom_pure _ _) ?_ (fun p => { tmps := #[.func (.func K) #[] cap, .pointer (some ⟨w.heap.size, 0, none⟩), .string ⟨#[]⟩, .pointer (some ⟨w.heap.size + 1, 0, none⟩), .int .i64 p, .func (.func 56) #[.int .i64 9] #[], .int .i64 p, undef, undef, undef, undef, undef, undef, undef, undef], defers := [] }) ?_ ?_ ?_ ?_
  · rintro s A A' row ⟨h1, h2, h3⟩ hg hr
    have hsz : ((w.alloc (.cells #[.func (.func K) #[] cap] 143)).alloc (.cells #[.string ⟨#[]⟩] 9)).heap.size = w.heap.size + 2 := by simp [World.size_alloc]
    have hr' : ∀ r, row = some r → w.heap.size + 2 ≤ r := fun r e => by have := (hr r e).1; omega
    refine ⟨h1.kept hg (fun e => ?_), h2.kept hg (fun e => ?_), h3.trans (below_grown hg h3.size (fun g e => ?_))⟩
    · have := hr' _ e.symm; omega
    · have := hr' _ e.symm; omega
    · have := hr' _ e; omega
  · refine ⟨?_, ?_, ?_⟩
    · have := World.alloc_heap_new (w.alloc (.cells #[.func (.func K) #[] cap] 143)) (.cells #[.string ⟨#[]⟩] 9)
      rwa [World.size_alloc] at this
    · exact (Boxed.new w _ _).alloc _
    · exact ((Below.refl _ _).alloc (Nat.le_refl _) _).alloc (by simp [World.size_alloc]) _
  · intro l p W Kc hK
    gi_wp2
    exact hK
  · rintro l pre p W ⟨h1, h2, h3⟩ hp hsz
    have c1 := h1.cell
    have f1 := h1.frozen
    have c2 := h2.cell
    have f2 := h2.frozen
    have hp9 : p < 9 := by
      have := hp.mem (List.mem_append_right _ (List.mem_singleton_self p))
      simpa using this
    gi_wp2

    refine ⟨trivial, ?_⟩
    refine CallsIn.inRound l (callsIn_wide.2 ((hH p hp9 W h3).mono ?_))
    rintro e W2 ⟨rfl, hb2⟩
    have hlt1 := h1.lt
    have hlt2 := h2.lt
    have d1 : Boxed W2 (w.heap.size + 1) 9 (.string ⟨(namesL h pre).toArray⟩) := (hb2.block _ hlt1).trans h1
    have d2 : Boxed W2 w.heap.size 143 (.func (.func K) #[] cap) := (hb2.block _ hlt2).trans h2
    have d3 : Below w.heap.size w W2 := h3.trans (hb2.mono h3.size)
    clear h1 h2 c1 c2 f1 f2
    cases hpp : h p with
    | false =>
      have en : namesL h (pre ++ [p]) = namesL h pre := by simp [namesL, hpp]
      gi_wp2
      refine ⟨keepsFrom_below hb2, KeepsIn.zero hb2.size, ?_, d2, d3⟩
      rw [en]; exact d1
    | true =>
      have en : namesL h (pre ++ [p]) = namesL h pre ++ [placesL.getD p 0] := by simp [namesL, hpp]
      have c1 := d1.cell
      have f1 := d1.frozen
      have hl9 : (namesL h pre).length ≤ 9 := namesL_len h pre p hp
      have hz : (ByteArray.mk (namesL h pre).toArray).size + (nm p).size ≤ 10 := by
        have e1 : (ByteArray.mk (namesL h pre).toArray).size = (namesL h pre).length := by simp [ByteArray.size]
        have e2 : (nm p).size = 1 := rfl
        omega
      have hzz : ¬ 9223372036854775807 < (namesL h pre).length + (nm p).size := by
        have e2 : (nm p).size = 1 := rfl
        omega
      have fin : KeepsFrom ((w.alloc (.cells #[.func (.func K) #[] cap] 143)).alloc (.cells #[.string ⟨#[]⟩] 9)).heap.size W
            (W2.drew.setCell ⟨w.heap.size + 1, 0, none⟩ (.string (ByteArray.mk (namesL h pre).toArray ++ nm p))) ∧ KeepsIn (((w.alloc (.cells #[.func (.func K) #[] cap] 143)).alloc (.cells #[.string ⟨#[]⟩] 9)).heap.size + 2) 0 W (W2.drew.setCell ⟨w.heap.size + 1, 0, none⟩ (.string (ByteArray.mk (namesL h pre).toArray ++ nm p))) ∧
          Boxed (W2.drew.setCell ⟨w.heap.size + 1, 0, none⟩ (.string (ByteArray.mk (namesL h pre).toArray ++ nm p))) (w.heap.size + 1) 9 (.string ⟨(namesL h (pre ++ [p])).toArray⟩) ∧
          Boxed (W2.drew.setCell ⟨w.heap.size + 1, 0, none⟩ (.string (ByteArray.mk (namesL h pre).toArray ++ nm p))) w.heap.size 143 (.func (.func K) #[] cap) ∧
          Below w.heap.size w (W2.drew.setCell ⟨w.heap.size + 1, 0, none⟩ (.string (ByteArray.mk (namesL h pre).toArray ++ nm p))) := by
        have d1' : Boxed W2.drew (w.heap.size + 1) 9 (.string ⟨(namesL h pre).toArray⟩) := d1
        have d2' : Boxed W2.drew w.heap.size 143 (.func (.func K) #[] cap) := d2
        have ev : (ByteArray.mk (namesL h pre).toArray ++ nm p) = ⟨(namesL h (pre ++ [p])).toArray⟩ := by
          apply ByteArray.ext
          rw [ByteArray.data_append, en]
          simp [nm]
        rw [ev]
        exact ⟨(keepsFrom_below hb2).trans (((KeepsOthers.drew W2).trans (KeepsOthers.setCell _ _ _)).from _), KeepsIn.zero (by simp [World.size_setCell]; exact hb2.size), d1'.set _, d2'.other (by omega) _, d3.drew.setCell (by simp) _⟩
      gi_wp2
      refine wpIn_region_any (by kernel_rfl) ?_
      change wpAnyIn _ _ _ _ _ _ _ _ _ (World.drew _)
      (refine wpAnyIn_ready (rs := [0, 1]) (by kernel_rfl) (by simp) ?_; refine AllReadyIn.cons rfl (fun Kr hKr => ?_) (AllReadyIn.cons rfl (fun Kr hKr => ?_) (AllReadyIn.nil)))
      · (go_simp; refine hKr _ _ ?_; clear hKr Kr)
        (refine wpAnyIn_ready (rs := [1]) (by kernel_rfl) (by simp) ?_; refine AllReadyIn.cons rfl (fun Kr hKr => ?_) (AllReadyIn.nil))
        (go_simp; refine hKr _ _ ?_; clear hKr Kr)
        (refine wpAnyIn_ready (rs := [2]) (by kernel_rfl) (by simp) ?_; refine AllReadyIn.cons rfl (fun Kr hKr => ?_) (AllReadyIn.nil))
        (go_simp; refine ⟨trivial, CallsIn.inRound l (callsIn_wide.2 ((name_c p hp9 _).mono ?_))⟩; rintro e wq ⟨rfl, rfl⟩; refine hKr _ _ ?_; clear hKr Kr)
        (refine wpAnyIn_ready (rs := [3]) (by kernel_rfl) (by simp) ?_; refine AllReadyIn.cons rfl (fun Kr hKr => ?_) (AllReadyIn.nil))
        (go_simp; refine hKr _ _ ?_; clear hKr Kr)
        (refine wpAnyIn_ready (rs := [4]) (by kernel_rfl) (by simp) ?_; refine AllReadyIn.cons rfl (fun Kr hKr => ?_) (AllReadyIn.nil))
        (go_simp; refine hKr _ _ ?_; clear hKr Kr)
        refine wpAnyIn_done (by kernel_rfl) ?_ _
        exact fin
      · (go_simp; refine hKr _ _ ?_; clear hKr Kr)
        (refine wpAnyIn_ready (rs := [0, 2]) (by kernel_rfl) (by simp) ?_; refine AllReadyIn.cons rfl (fun Kr hKr => ?_) (AllReadyIn.cons rfl (fun Kr hKr => ?_) (AllReadyIn.nil)))
        · (go_simp; refine hKr _ _ ?_; clear hKr Kr)
          (refine wpAnyIn_ready (rs := [2]) (by kernel_rfl) (by simp) ?_; refine AllReadyIn.cons rfl (fun Kr hKr => ?_) (AllReadyIn.nil))
          (go_simp; refine ⟨trivial, CallsIn.inRound l (callsIn_wide.2 ((name_c p hp9 _).mono ?_))⟩; rintro e wq ⟨rfl, rfl⟩; refine hKr _ _ ?_; clear hKr Kr)
          (refine wpAnyIn_ready (rs := [3]) (by kernel_rfl) (by simp) ?_; refine AllReadyIn.cons rfl (fun Kr hKr => ?_) (AllReadyIn.nil))
          (go_simp; refine hKr _ _ ?_; clear hKr Kr)
          (refine wpAnyIn_ready (rs := [4]) (by kernel_rfl) (by simp) ?_; refine AllReadyIn.cons rfl (fun Kr hKr => ?_) (AllReadyIn.nil))
          (go_simp; refine hKr _ _ ?_; clear hKr Kr)
          refine wpAnyIn_done (by kernel_rfl) ?_ _
          exact fin
        · (go_simp; refine ⟨trivial, CallsIn.inRound l (callsIn_wide.2 ((name_c p hp9 _).mono ?_))⟩; rintro e wq ⟨rfl, rfl⟩; refine hKr _ _ ?_; clear hKr Kr)
          (refine wpAnyIn_ready (rs := [0]) (by kernel_rfl) (by simp) ?_; refine AllReadyIn.cons rfl (fun Kr hKr => ?_) (AllReadyIn.nil))
          (go_simp; refine hKr _ _ ?_; clear hKr Kr)
          (refine wpAnyIn_ready (rs := [3]) (by kernel_rfl) (by simp) ?_; refine AllReadyIn.cons rfl (fun Kr hKr => ?_) (AllReadyIn.nil))
          (go_simp; refine hKr _ _ ?_; clear hKr Kr)
          (refine wpAnyIn_ready (rs := [4]) (by kernel_rfl) (by simp) ?_; refine AllReadyIn.cons rfl (fun Kr hKr => ?_) (AllReadyIn.nil))
          (go_simp; refine hKr _ _ ?_; clear hKr Kr)
          refine wpAnyIn_done (by kernel_rfl) ?_ _
          exact fin
  · intro D W hD hI hd
    obtain ⟨h1, h2, h3⟩ := hI
    have c1 := h1.cell
    have f1 := h1.frozen
    gi_wp2
    refine ⟨by simp, .inl ⟨D, _, rfl, run_takeDeferred hd, ?_⟩⟩
    refine ⟨_, results_tmp rfl _ _ _, rfl, ?_⟩
    refine h3.trans ⟨rfl, rfl, rfl, by simp [World.putObj], fun k hk => World.putObj_heap_other ?_⟩
    have := World.size_alloc
    simp only [World.size_alloc] at hD
    omega
  · intro _ _ _ _ _ _ hf
    exact hf.elim
end Go.Proofs.YtfedloljhocpgaaGreatDoor

