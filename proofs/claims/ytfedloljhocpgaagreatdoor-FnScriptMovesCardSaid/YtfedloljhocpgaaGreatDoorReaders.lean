import Derived.Test.YtfedloljhocpgaaGreatDoorNames
import Derived.Test.YtfedloljhocpgaaGreatDoorSource
namespace Go.PM
open Go.RowKit
def rdH (f : Nat → ByteArray) (a : ByteArray) (p : Nat) : Bool := decide (nm p ≠ a) && decide (srcT f p = a)
end Go.PM
namespace Go.Proofs.YtfedloljhocpgaaGreatDoor
open Go.RowKit Go.PM

set_option maxRecDepth 100000 in
set_option maxHeartbeats 1000000 in
theorem readersFn_c (f : Nat → ByteArray) (a : ByteArray) (p : Nat) (hp : p < 9) (b1 b2 : Nat) (w : World) (h1 : At w b1 9 #[.string a]) (h2 : At w b2 65 (tabA f)) :
    Calls Tryz.prog 114 #[.int .i64 p, .pointer (some ⟨b1, 0, none⟩), .pointer (some ⟨b2, 0, none⟩)] w fun e w' => e = .returned (.bool (rdH f a p)) ∧ Below w.heap.size w w' := by
  have c1 := h1.cell 0
  have f1 := h1.frozen 0
  have l1 := h1.lt
  have l2 := h2.lt
  have hc : ∀ x : Ext w.heap.size w, x.val.cell? ⟨b1, 0, none⟩ = some (.string a) := fun x => (x.property.cell (p := ⟨b1, 0, none⟩) l1).trans (h1.cell 0)
  have hc0 : ∀ x : Ext w.heap.size w, x.val.cell? ⟨b2, 0, none⟩ = some (.string (f 0)) := fun x => (x.property.cell (p := ⟨b2, 0, none⟩) l2).trans (h2.cell 0)
  have hc1 : ∀ x : Ext w.heap.size w, x.val.cell? ⟨b2, 1, none⟩ = some (.string (f 1)) := fun x => (x.property.cell (p := ⟨b2, 1, none⟩) l2).trans (h2.cell 1)
  have hc2 : ∀ x : Ext w.heap.size w, x.val.cell? ⟨b2, 2, none⟩ = some (.string (f 2)) := fun x => (x.property.cell (p := ⟨b2, 2, none⟩) l2).trans (h2.cell 2)
  have hc3 : ∀ x : Ext w.heap.size w, x.val.cell? ⟨b2, 3, none⟩ = some (.string (f 3)) := fun x => (x.property.cell (p := ⟨b2, 3, none⟩) l2).trans (h2.cell 3)
  have hc4 : ∀ x : Ext w.heap.size w, x.val.cell? ⟨b2, 4, none⟩ = some (.string (f 4)) := fun x => (x.property.cell (p := ⟨b2, 4, none⟩) l2).trans (h2.cell 4)
  have hc5 : ∀ x : Ext w.heap.size w, x.val.cell? ⟨b2, 5, none⟩ = some (.string (f 5)) := fun x => (x.property.cell (p := ⟨b2, 5, none⟩) l2).trans (h2.cell 5)
  have hc6 : ∀ x : Ext w.heap.size w, x.val.cell? ⟨b2, 6, none⟩ = some (.string (f 6)) := fun x => (x.property.cell (p := ⟨b2, 6, none⟩) l2).trans (h2.cell 6)
  have hc7 : ∀ x : Ext w.heap.size w, x.val.cell? ⟨b2, 7, none⟩ = some (.string (f 7)) := fun x => (x.property.cell (p := ⟨b2, 7, none⟩) l2).trans (h2.cell 7)
  have hc8 : ∀ x : Ext w.heap.size w, x.val.cell? ⟨b2, 8, none⟩ = some (.string (f 8)) := fun x => (x.property.cell (p := ⟨b2, 8, none⟩) l2).trans (h2.cell 8)
  clear c1 f1
  have hbn : (∃ q, q = nm p) := ⟨_, rfl⟩
  obtain ⟨q, hq⟩ := hbn
  have hname : ∀ W : World, Calls Tryz.prog 59 #[.int .i64 p] W fun e w' => e = .returned (.string q) ∧ W = w' := fun W => by rw [hq]; exact name_c p hp W
  have HR := Lib.hid (show rdH f a p = (decide (q ≠ a) && decide (srcT f p = a)) by rw [hq]; rfl)
  clear hq
  have HS := Lib.hid (fun W => source_c f p hp W)
  rcases Bool.eq_false_or_eq_true (q.toList == a.toList) with hd | hd
  · go_enter Tryz.func114, Tryz.ntmps114
    go_wp2
    refine wp_region_ext w.heap.size (by kernel_rfl) (by kernel_rfl) ?_
    repeat (go_big_quiet_step (first | (go_at_call 59; exact ext_same _ (hname _)) | (go_at_call 110; exact ext_call _ (Nat.le_refl _) (HS.out _))))
    refine wpQuiet_nil ?_
    intro w2 hw'
    obtain ⟨xw, hxw⟩ := hw'
    have hb2 := xw.property
    rw [← hxw] at hb2
    clear hxw xw hc0 hc1 hc2 hc3 hc4 hc5 hc6 hc7 hc8 hc hname HS
    go_wp2
    go_ret
    refine ⟨?_, hb2⟩
    rw [HR.out]
    have : q = a := by rw [beq_str, decide_eq_true_eq] at hd; exact hd
    rw [this]; simp
  · go_enter Tryz.func114, Tryz.ntmps114
    go_wp2
    refine wp_region_ext w.heap.size (by kernel_rfl) (by kernel_rfl) ?_
    repeat (go_big_quiet_step (first | (go_at_call 59; exact ext_same _ (hname _)) | (go_at_call 110; exact ext_call _ (Nat.le_refl _) (HS.out _))))
    refine wpQuiet_nil ?_
    intro w2 hw'
    obtain ⟨xw, hxw⟩ := hw'
    have hb2 := xw.property
    rw [← hxw] at hb2
    clear hxw xw hc0 hc1 hc2 hc3 hc4 hc5 hc6 hc7 hc8 hc hname HS
    go_wp2
    go_ret
    refine ⟨?_, hb2⟩
    rw [HR.out]
    have : ¬ q = a := by rw [beq_str, decide_eq_false_iff_not] at hd; exact hd
    rw [beq_str]; simp [this]
set_option maxRecDepth 100000 in
set_option maxHeartbeats 1000000 in
theorem readers_c (f : Nat → ByteArray) (a : ByteArray) (w : World) :
    Calls Tryz.prog 54 #[tabX f, .string a] w fun e w' => e = .returned (.string (namesW (rdH f a))) ∧ Below w.heap.size w w' := by
  go_enter Tryz.func54, Tryz.ntmps54
  go_wp2_with fail
  have q1 : At ((w.alloc (.cells (tabA f) 65)).alloc (.cells #[.string a] 9)) w.heap.size 65 (tabA f) := (At.new w _ _).alloc _
  have q2 : At ((w.alloc (.cells (tabA f) 65)).alloc (.cells #[.string a] 9)) (w.heap.size + 1) 9 #[.string a] := by
    have := At.new (w.alloc (.cells (tabA f) 65)) 9 #[.string a]
    rwa [World.size_alloc] at this
  have b0 : Below w.heap.size w ((w.alloc (.cells (tabA f) 65)).alloc (.cells #[.string a] 9)) := by (repeat' (first | (with_reducible exact Below.refl _ _) | (with_reducible assumption) | (with_reducible refine Below.alloc ?_ ?_ _) | (with_reducible refine Below.drew ?_) | (with_reducible refine Below.setCell ?_ ?_ _) | (with_reducible exact Nat.le_refl _) | omega | ((repeat (first | rewrite [World.size_alloc] | rewrite [World.size_setCell] | rewrite [World.size_drew])); omega) | (simp; omega) | (simp; done)))
  have z0 := b0.size
  refine (names_c 114 #[.pointer (some ⟨w.heap.size + 1, 0, none⟩), .pointer (some ⟨w.heap.size, 0, none⟩)] (rdH f a) _ (fun _ _ => rfl) (fun p hp W hW => ?_)).mono ?_
  · exact readersFn_c f a p hp _ _ W (q2.keep hW) (q1.keep hW)
  · rintro e w3 ⟨rfl, hb3⟩
    have b3 := b0.trans (hb3.mono z0)
    clear q1 q2 hb3
    go_wp2
    go_ret
    exact ⟨rfl, b3⟩
end Go.Proofs.YtfedloljhocpgaaGreatDoor

